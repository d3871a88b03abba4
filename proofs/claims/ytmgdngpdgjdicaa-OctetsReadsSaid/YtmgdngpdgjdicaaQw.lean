/-
  What any reader gives behind any calls: the statement's walk.
-/
import Derived.Test.YtmgdngpdgjdicaaQl
import Derived.Test.YtmgdngpdgjdicaaBr
import Derived.Test.YtmgdngpdgjdicaaEq
import Derived.Test.YtmgdngpdgjdicaaLaw
import Derived.Test.YtmgdngpdgjdicaaSc
import Derived.Deep.Cut
namespace Go.Proofs.Ytmgdngpdgjdicaa
open Go.RowKit

/-- The statement's own copy: bytes in its own block, whatever they are. -/
def Own (w : World) (A : Option Addr) (n : Nat) : Prop := ∀ g, A = some ⟨g, 0, none⟩ → ∃ cs : Array Value, At w g cs 5 ∧ ∀ i, i < n → ∃ y : UInt8, cs[i]? = some (.int .u8 (y.toNat : Int))
theorem Own.of {w : World} {base c : Nat} {A : Option Addr} {d : List UInt8} (h : Ow w base (.slice A d.length c) d) : Own w A d.length := by
  rintro g rfl
  obtain ⟨_, h | ⟨g', cap, cur, hv, _, hg, _, _, _, ht⟩⟩ := h
  · cases h.1
  · cases hv
    refine ⟨cur, hg, fun i hi => ?_⟩
    have h1 : (cur.toList.take (d.length * 1))[i]? = (ubs d)[i]? := by rw [ht]
    rw [List.getElem?_take, if_pos (by omega)] at h1
    refine ⟨d[i], ?_⟩
    rw [← Array.getElem?_toList, h1]
    exact ubs_at hi
theorem Own.fr {w w' : World} {A : Option Addr} {n : Nat} {P : Nat → Prop} (h : Own w A n) (hf : Fr P w w') (hn : ∀ g, A = some ⟨g, 0, none⟩ → ¬ P g) : Own w' A n := fun g hg => by
  obtain ⟨cs, h1, h2⟩ := h g hg
  exact ⟨cs, h1.fr hf (hn g hg), h2⟩
theorem Own.put {w : World} {g n : Nat} (h : Own w (some ⟨g, 0, none⟩) n) (i : Nat) (y : UInt8) : Own (w.setCell ⟨g, i, none⟩ (.int .u8 (y.toNat : Int))) (some ⟨g, 0, none⟩) n := fun g' hg' => by
  cases hg'
  obtain ⟨cs, h1, h2⟩ := h g rfl
  refine ⟨_, h1.put i _, fun j hj => ?_⟩
  rw [Array.getElem?_setIfInBounds]
  by_cases hij : i = j
  · subst hij
    rw [if_pos rfl]
    obtain ⟨z, hz⟩ := h2 i hj
    rw [if_pos (Array.getElem?_eq_some_iff.1 hz).1]
    exact ⟨y, rfl⟩
  · rw [if_neg hij]
    exact h2 j hj

theorem QR.own {w w' : World} {B : Nat} {F P : Nat → Prop} {p q k c : Nat} {bs ms : List UInt8} {A : Option Addr} (h : QR w B F p q k bs A c ms) (hf : Fr P w w') (hn : ∀ g, P g → B ≤ g ∧ ¬ F g ∧ g ≠ q) : QR w' B F p q k bs A c ms :=
  ⟨h.rs.fr hf (fun g hg hp => (hn g hp).2.1 hg), h.box.fr hf (fun hp => (hn q hp).2.2 rfl), h.rd.frB hf (fun g hg hp => by have := (hn g hp).1; omega), h.cap, h.out, h.inn, h.low, h.lowF, Nat.le_trans h.base hf.size, h.bad, h.good, h.len⟩
theorem xor_byte (y : UInt8) : bits .xor .u8 (y.toNat : Int) 85 = ((y ^^^ 85).toNat : Int) := by
  have h1 : ∀ n : Fin 256, bits .xor .u8 (n.val : Int) 85 = ((n.val ^^^ 85 : Nat) : Int) := by decide +kernel
  have h2 := h1 ⟨y.toNat, y.toNat_lt⟩
  rw [UInt8.toNat_xor]
  exact h2
set_option maxHeartbeats 40000000 in
set_option maxRecDepth 100000 in
theorem reads_walk (d : List UInt8) (A : Option Addr) (cd : Nat) (acts : List Act) (S : Option Addr) (c : Nat) (w : World) (hd : Rb w w.heap.size A d) (hcd : d.length ≤ cd) (hdl : d.length ≤ 140737488351232) (h : Script w w.heap.size S acts) (hl : acts.length ≤ 9223372036854775807) :
    Calls Try.prog 4 #[.slice A d.length cd, .slice S acts.length c] w fun e w' => e = .returned (.bool true) ∧ Below w.heap.size w w' := by
  have H := hid h
  have HD := hid hd
  have HCD := hid hcd
  clear h hd hcd
  by_cases h7 : 70000 < d.length
  · go_enter Try.func4, Try.ntmps4
    go_wp2_with (go_at_call 7; refine (alive_any _).mono ?_; rintro e w1 ⟨rfl, h1⟩; replace h1 := hid h1)
    go_ret
    exact ⟨rfl, h1.out⟩
  · have h70 : d.length ≤ 70000 := by omega
    have hf7 : decide (70000 < d.length) = false := by simpa using h7
    clear h7
    obtain ⟨i0, hi, hz0, hz1, hz2⟩ := info_parts infoB
    go_enter Try.func4, Try.ntmps4
    have MK := hid (fun (w2 : World) => (by
      have := World.ownsRow_made (base := w2.heap.size) (e := 5) (size := 1) w2 #[] 0 (by simp) (by simp [maxLen]) rfl
      simpa using this : (w2.alloc (.cells #[] 5)).ownsRow w2.heap.size 5 1 (.slice (some ⟨w2.heap.size, 0, none⟩) 0 0) 0 []))
    go_wp2_with (first
      | (go_at_call 7; refine (alive_any _).mono ?_; rintro e w1 ⟨rfl, h1⟩; replace h1 := hid h1)
      | (go_at_call 8; refine (long_any acts S c w1 ((H.out.below h1.out).mono h1.out.size) hl).mono ?_; rintro e w2 ⟨x, rfl, y, rfl, h2⟩; have HB2 := hid (h1.out.trans (h2.2.mono h1.out.size)); have HO0 := hid (MK.out w2); have HX0 := hid ((HD.out.below HB2.out).alloc (.cells #[] 5)); replace h2 := hid h2; cases y)
      | (at_builtin; go_loud (refine wpList_append_rd rfl (.tmp 30) (.tmp 31) _ rfl w2.heap.size 5 i0 (.int .u8 0) 1 Try.underlying30 hi hz0 hz1 hz2 rfl _ 0 [] rfl HO0.out w.heap.size A d.length cd (ubs d) rfl (ubs_length _) HX0.out (ubs_one _) (by unfold maxLen; omega) (by omega) (by have := HB2.out.size; rw [World.size_alloc]; omega) ?_); intro v3 w3 hown hgr hat; rw [Nat.zero_add, List.nil_append] at hown; obtain ⟨A1, c1, rfl, hcl, -⟩ := own_form hown; replace hcl := hid hcl; replace hown := hid hown; replace hgr := hid hgr; replace hat := hid hat)
      | (go_at_call 23; refine (from_any d A1 c1 w3 (Rd.of_own hown.out) (by omega)).mono ?_; rintro e w4 ⟨p, rfl, h4⟩; replace h4 := hid h4))
    rotate_left
    · go_ret
      exact ⟨rfl, HB2.out⟩
    obtain ⟨W5, hW5⟩ : ∃ W5, W5 = w4.alloc (.cells #[.slice A d.length cd, .int .i64 0] 57) := ⟨_, rfl⟩
    have hf3 : Fr (fun _ => False) w w3 := ((Fr.of_new HB2.out).alloc _).grown hgr.out (fun k hk => .inl (by cases hk; exact HB2.out.size))
    have hf4 : Fr (fun _ => False) w w4 := hf3.trans (Fr.of_new h4.out.2.2)
    have hb5 : Below w.heap.size w W5 := by rw [hW5]; exact (hf4.alloc _).below (fun _ h => h.elim) (Nat.le_refl _)
    have hq5 : QR W5 w.heap.size (fun g => w3.heap.size ≤ g ∧ g < w4.heap.size) p w4.heap.size 0 d A cd d := by
      refine ⟨?_, ?_, HD.out.below hb5, HCD.out, fun h => Nat.lt_irrefl _ h.2, ⟨h4.out.1, h4.out.2.1.lt⟩, hf4.size, fun g hg => Nat.le_trans hf3.size hg.1, hb5.size, fun h => absurd rfl h, fun _ => rfl, h70⟩
      · rw [hW5]
        exact h4.out.2.1.fr ((Fr.refl (fun _ => False) _).alloc _) (fun _ _ => id)
      · rw [hW5]
        exact At.new _ _ _
    have hown5 : Own W5 A1 d.length := by
      rw [hW5]
      exact ((Own.of hown.out).fr (Fr.of_new (S := fun _ => False) h4.out.2.2) (fun _ _ => id)).fr ((Fr.refl (fun _ => False) _).alloc _) (fun _ _ => id)
    have hA1 : (A1 = none ∧ d.length = 0) ∨ ∃ g, A1 = some ⟨g, 0, none⟩ ∧ w.heap.size ≤ g ∧ g < w3.heap.size := by
      obtain ⟨A9, c9, e9, _, _, hn, _, hs⟩ := own_form hown.out
      cases e9
      rcases A1 with _ | ⟨g, o, sp⟩
      · exact .inl ⟨rfl, (hn rfl).1⟩
      · obtain ⟨k1, k2, k3, k4⟩ := hs _ rfl
        simp only at k1 k2 k3 k4
        subst k1 k2
        exact .inr ⟨g, rfl, Nat.le_trans HB2.out.size k3, k4⟩
    have HB5 := hid hb5
    have HQ5 := hid hq5
    have HOW := hid hown5
    have HA1 := hid hA1
    have HP := hid (show w3.heap.size ≤ w4.heap.size from h4.out.2.2.size)
    clear hf3 hf4 hb5 hq5 hown5 hA1
    rw [← hW5]
    clear hW5
    have HLT := hid (h2.out.1 (by trivial))
    go_loopw [39] (fun i wr => ∃ (j : Nat), j ≤ d.length ∧ i = .int .i64 j ∧ Hid (Own wr A1 d.length) ∧ Hid (Fr (fun g => A1 = some ⟨g, 0, none⟩) W5 wr)) (fun i _ => d.length - (intOf i).toNat)
    case atStart => exact ⟨0, Nat.zero_le _, rfl, HOW, hid (Fr.refl _ _)⟩
    case round =>
      obtain ⟨j, hj, rfl, HO, HF⟩ := hrel
      by_cases hlt : j < d.length
      · rcases HA1.out with ⟨_, h0⟩ | ⟨g, rfl, hg1, hg2⟩
        · omega
        · obtain ⟨cs, hat9, hcs⟩ := HO.out g rfl
          obtain ⟨y, hy⟩ := hcs j hlt
          have k0 := hat9.cell j
          have k1 := hat9.frozen j
          rw [hy] at k0
          have hx := xor_byte y
          have HP9 := hid (HO.out.put j (y ^^^ 85))
          clear hat9 hcs hy
          go_wp2
          go_roundw
          case rel => exact ⟨j + 1, by omega, by go_num, HP9, hid (HF.out.setCell (p := ⟨g, j, none⟩) (.inr rfl) _)⟩
          case measure => simp [intOf]; omega
      · obtain rfl : j = d.length := by omega
        have hfo : ∀ g, A1 = some ⟨g, 0, none⟩ → w.heap.size ≤ g ∧ g < w3.heap.size := fun g hg => by
          rcases HA1.out with ⟨h0, _⟩ | ⟨g', h0, h1, h2⟩
          · rw [h0] at hg
            cases hg
          · rw [h0] at hg
            cases hg
            exact ⟨h1, h2⟩
        have HQ6 := hid (HQ5.out.own HF.out (fun g hg => ⟨(hfo g hg).1, fun h => by have := (hfo g hg).2; omega, by have := (hfo g hg).2; have := HP.out; omega⟩))
        have HB6 := hid (HB5.out.trans (HF.out.below (fun g hg => (hfo g hg).1) HB5.out.size))
        clear hfo
        go_wp2
        go_loopw [51] (fun i wr => ∃ (j : Nat), j ≤ acts.length ∧ i = .int .i64 j ∧ Hid (∃ k bs A c ms, QR wr w.heap.size (fun g => w3.heap.size ≤ g ∧ g < w4.heap.size) p w4.heap.size k bs A c ms) ∧ Hid (Below w.heap.size w wr)) (fun i _ => acts.length - (intOf i).toNat)
        case atStart => exact ⟨0, Nat.zero_le _, rfl, hid ⟨_, _, _, _, _, HQ6.out⟩, HB6⟩
        case round =>
          obtain ⟨j, hj, rfl, HR, HB⟩ := hrel
          obtain ⟨k, bs, Am, cm, ms, hq⟩ := HR.out
          clear HR
          have HQ := hid hq
          clear hq
          by_cases hlt : j < acts.length
          · obtain ⟨b, o, rfl, hbl, c0, c1, c2, c3⟩ := (H.out.below HB.out).at_ hlt
            obtain ⟨a, ha⟩ : ∃ a, a = acts[j] := ⟨_, rfl⟩
            have he := H.out.each acts[j] (List.getElem_mem hlt)
            rw [← ha] at c0 c1 c2 c3 he
            have HE := hid he
            have HA := hid ha
            clear he ha
            have hue := a.u_eq
            have W1 := hid (HQ.out.new_ ((Below.refl _ _).alloc (Nat.le_refl _) (.cells a.cells.toArray 37)))
            have T1 : Hid (At (wr.alloc (.cells a.cells.toArray 37)) wr.heap.size a.cells.toArray 37) := hid (At.new _ _ _)
            have HB1 := hid (HB.out.alloc HB.out.size (.cells a.cells.toArray 37))
            unfold Act.cells at W1 T1 HB1
            have e0 := W1.out.box.cell 0
            have e1 := W1.out.box.cell 1
            have g0 := W1.out.box.frozen 0
            have g1 := W1.out.box.frozen 1
            simp at e0 e1
            have hr : a.u % 6 = 0 ∨ a.u % 6 = 1 ∨ a.u % 6 = 2 ∨ a.u % 6 = 3 ∨ a.u % 6 = 4 ∨ a.u % 6 = 5 := by omega
            rcases hr with hr | hr | hr | hr | hr | hr
            · have q0 : ((a.u : Int) % 6 == 0) = true := by simp; omega
              obtain ⟨v, k2, bs2, ms2, PR, PP, pb, pg, pl⟩ := rpair_num W1.out a.size
              have HR := hid (PR _ W1.out.rd W1.out.base)
              unfold wv at HR
              have HP9 := hid PP
              have PB := hid (And.intro pb (And.intro pg pl))
              clear hr PR PP pb pg pl
              go_wp2_with (first
                | (go_at_call 24; refine HR.out.mono ?_; rintro e w5 ⟨x, rfl, A2, c2, rfl, h5⟩; unfold wv; have b5 := (W1.out.box.new_ h5.2.2).alloc (.cells #[.slice A2 ms2.length c2, .int .i64 k2] 57); have t5 := (T1.out.new_ h5.2.2).alloc (.cells #[.slice A2 ms2.length c2, .int .i64 k2] 57); have d0 := b5.cell 0; have d1 := b5.cell 1; have f0 := b5.frozen 0; have f1 := b5.frozen 1; have HH := hid (W1.out.half (h5.2.2.alloc h5.2.2.size (.cells #[.slice A2 ms2.length c2, .int .i64 k2] 57)) c2 k2 (h5.1.alloc (.cells #[.slice A2 ms2.length c2, .int .i64 k2] 57))); have hne := t5.ne b5 (by decide); have t7 := (t5.far (p := ⟨w4.heap.size, 0, none⟩) hne (.slice A2 ms2.length c2)).far (p := ⟨w4.heap.size, 1, none⟩) hne (.int .i64 k2); have s1 := t7.cell 1; have s2 := t7.cell 2; simp at d0 d1 s1 s2; clear b5 t5 hne t7; replace h5 := hid h5)
                | (go_at_call 25; refine (HP9.out _ HH.out.rs).mono ?_; rintro e w8 ⟨rfl, h8⟩; have HQ8 := hid (W1.out.full HH.out h5.out.2.1 h8.1 h8.2 PB.out.1 PB.out.2.1 PB.out.2.2); replace h8 := hid h8))
              have HB8 := hid ((HB1.out.trans (HH.out.fr.below (fun g hg => by have : g = w4.heap.size := hg; have := HQ.out.low; omega) HB1.out.size)).trans (h8.out.2.below (fun g hg => by have : g = p := hg; have := HQ.out.lowF _ HQ.out.inn; omega) (Nat.le_trans HB1.out.size HH.out.fr.size)))
              have HQ9 := hid (HQ8.out.own ((Fr.refl (fun _ => False) _).drew) (fun _ h => h.elim))
              have hle : (if k2 = 0 then ms2.length else 0) = bs2.length := by
                by_cases hk2 : k2 = 0
                · rw [if_pos hk2, HQ9.out.good hk2]
                · rw [if_neg hk2, HQ9.out.bad hk2]; rfl
              have HL9 := hid (left_any _ _ _ _ w8.drew HQ9.out.rs)
              have HM9 := hid (qleft_any ms2 A2 c2 k2 w8.drew)
              unfold wv at HM9
              rw [hle] at HM9
              clear hle
              have hS : Hid ((fun W : World => W.cell? ⟨w4.heap.size, 0, none⟩ = some (.slice A2 ms2.length c2) ∧ W.cell? ⟨w4.heap.size, 1, none⟩ = some (.int .i64 k2)) w8.drew) := hid ⟨HQ9.out.box.cell 0, HQ9.out.box.cell 1⟩
              refine wp_region_upto (fun W : World => W.cell? ⟨w4.heap.size, 0, none⟩ = some (.slice A2 ms2.length c2) ∧ W.cell? ⟨w4.heap.size, 1, none⟩ = some (.int .i64 k2)) 5 5 (by kernel_rfl) (by kernel_rfl) ?_
              refine wpUpto_take (i := 0) (v := ?_) rfl (by kernel_rfl) (by kernel_rfl) (by kernel_rfl) (by kernel_rfl) (by decide) (fun _ _ _ h => h) (Or.inl ⟨by rfl, ?_⟩) hS.out ?_
              rotate_left
              · (intro W hSW; clear hSW; go_simp; rfl)
              refine wpUpto_take (i := 2) (v := .agg #[.slice A2 ms2.length c2, .int .i64 k2]) rfl (by kernel_rfl) (by kernel_rfl) (by kernel_rfl) (by kernel_rfl) (by decide) (fun _ _ _ h => h) (Or.inl ⟨by rfl, ?_⟩) hS.out ?_
              · (intro W hSW; obtain ⟨s0, s1⟩ := hSW; go_simp)
              simp only [Act.put, List.setIfInBounds_toArray]
              refine wpUpto_one (i := 1) rfl (by kernel_rfl) rfl ?_
              intro K hK
              go_simp
              go_at_call 35
              refine HL9.out.mono ?_
              rintro e w9 ⟨rfl, rfl⟩
              refine hK.out _ _ (fun _ => hS.out) ?_
              clear hK K
              refine wpUpto_one (i := 3) rfl (by kernel_rfl) rfl ?_
              intro K hK
              go_simp
              go_at_call 36
              refine HM9.out.mono ?_
              rintro e w10 ⟨rfl, h10⟩
              have HQ10 := hid (HQ9.out.new_ h10)
              replace h10 := hid h10
              refine hK.out _ _ (fun _ => ⟨HQ10.out.box.cell 0, HQ10.out.box.cell 1⟩) ?_
              clear hK K
              refine wpUpto_one (i := 4) rfl (by kernel_rfl) rfl ?_
              intro K hK
              go_simp
              refine hK.out _ _ (fun _ => ⟨HQ10.out.box.cell 0, HQ10.out.box.cell 1⟩) ?_
              clear hK K
              refine wpUpto_done (by kernel_rfl) ?_ _
              go_wp2
              go_roundw
              case rel => exact ⟨j + 1, by omega, by go_num, hid ⟨_, _, _, _, _, HQ10.out⟩, (HB8.out.drew).trans (h10.out.mono (Nat.le_trans HB8.out.size (Nat.le_refl _)))⟩
              case measure => simp [intOf]; omega
            · have q0 : ((a.u : Int) % 6 == 0) = false := by simp; omega
              have q1 : ((a.u : Int) % 6 == 1) = true := by simp; omega
              obtain ⟨xs, k2, bs2, ms2, PR, PP, pb, pg, pl⟩ := rpair_bytes W1.out a.size
              have HR := hid (PR _ W1.out.rd W1.out.base)
              unfold wv at HR
              have HP9 := hid PP
              have PB := hid (And.intro pb (And.intro pg pl))
              clear hr PR PP pb pg pl
              go_wp2_with (first
                | (go_at_call 26; refine HR.out.mono ?_; rintro e w5 ⟨x, rfl, A6, c6, A2, c2, rfl, h6, h5⟩; unfold wv; have HX := hid ((h6.alloc (.cells #[.slice A2 ms2.length c2, .int .i64 k2] 57)).frB (((Fr.refl (fun g => g = w4.heap.size) _).setCell (p := ⟨w4.heap.size, 0, none⟩) (.inr rfl) (.slice A2 ms2.length c2)).setCell (p := ⟨w4.heap.size, 1, none⟩) (.inr rfl) (.int .i64 k2)) (fun g hg he => by have := HQ.out.low; omega)); clear h6; have b5 := (W1.out.box.new_ h5.2.2).alloc (.cells #[.slice A2 ms2.length c2, .int .i64 k2] 57); have t5 := (T1.out.new_ h5.2.2).alloc (.cells #[.slice A2 ms2.length c2, .int .i64 k2] 57); have d0 := b5.cell 0; have d1 := b5.cell 1; have f0 := b5.frozen 0; have f1 := b5.frozen 1; have HH := hid (W1.out.half (h5.2.2.alloc h5.2.2.size (.cells #[.slice A2 ms2.length c2, .int .i64 k2] 57)) c2 k2 (h5.1.alloc (.cells #[.slice A2 ms2.length c2, .int .i64 k2] 57))); have hne := t5.ne b5 (by decide); have t7 := (t5.far (p := ⟨w4.heap.size, 0, none⟩) hne (.slice A2 ms2.length c2)).far (p := ⟨w4.heap.size, 1, none⟩) hne (.int .i64 k2); have s1 := t7.cell 1; have s2 := t7.cell 2; simp at d0 d1 s1 s2; clear b5 t5 hne t7; replace h5 := hid h5)
                | (go_at_call 27; refine (HP9.out _ HH.out.rs).mono ?_; rintro e w8 ⟨x, rfl, h8⟩; obtain ⟨A9, c9, rfl, -⟩ := own_form h8.1; have HQ8 := hid (W1.out.full HH.out h5.out.2.1 h8.2.1 h8.2.2 PB.out.1 PB.out.2.1 PB.out.2.2); have HX8 := hid (HX.out.frB h8.2.2 (fun g hg he => by have : g = p := he; have := HQ.out.lowF _ HQ.out.inn; omega)); replace h8 := hid h8)
                | (go_at_call 22; refine (nbytes_same xs A9 A6 c9 c6 w8 _ _ (Rd.of_own h8.out.1) HX8.out).mono ?_; rintro e w9 ⟨rfl, rfl⟩))
              have HB8 := hid ((HB1.out.trans (HH.out.fr.below (fun g hg => by have : g = w4.heap.size := hg; have := HQ.out.low; omega) HB1.out.size)).trans (h8.out.2.2.below (fun g hg => by have : g = p := hg; have := HQ.out.lowF _ HQ.out.inn; omega) (Nat.le_trans HB1.out.size HH.out.fr.size)))
              have HQ9 := hid (HQ8.out.own ((Fr.refl (fun _ => False) _).drew) (fun _ h => h.elim))
              have hle : (if k2 = 0 then ms2.length else 0) = bs2.length := by
                by_cases hk2 : k2 = 0
                · rw [if_pos hk2, HQ9.out.good hk2]
                · rw [if_neg hk2, HQ9.out.bad hk2]; rfl
              have HL9 := hid (left_any _ _ _ _ w8.drew HQ9.out.rs)
              have HM9 := hid (qleft_any ms2 A2 c2 k2 w8.drew)
              unfold wv at HM9
              rw [hle] at HM9
              clear hle
              have hS : Hid ((fun W : World => W.cell? ⟨w4.heap.size, 0, none⟩ = some (.slice A2 ms2.length c2) ∧ W.cell? ⟨w4.heap.size, 1, none⟩ = some (.int .i64 k2)) w8.drew) := hid ⟨HQ9.out.box.cell 0, HQ9.out.box.cell 1⟩
              refine wp_region_upto (fun W : World => W.cell? ⟨w4.heap.size, 0, none⟩ = some (.slice A2 ms2.length c2) ∧ W.cell? ⟨w4.heap.size, 1, none⟩ = some (.int .i64 k2)) 5 5 (by kernel_rfl) (by kernel_rfl) ?_
              refine wpUpto_take (i := 0) (v := ?_) rfl (by kernel_rfl) (by kernel_rfl) (by kernel_rfl) (by kernel_rfl) (by decide) (fun _ _ _ h => h) (Or.inl ⟨by rfl, ?_⟩) hS.out ?_
              rotate_left
              · (intro W hSW; clear hSW; go_simp; rfl)
              refine wpUpto_take (i := 2) (v := .agg #[.slice A2 ms2.length c2, .int .i64 k2]) rfl (by kernel_rfl) (by kernel_rfl) (by kernel_rfl) (by kernel_rfl) (by decide) (fun _ _ _ h => h) (Or.inl ⟨by rfl, ?_⟩) hS.out ?_
              · (intro W hSW; obtain ⟨s0, s1⟩ := hSW; go_simp)
              simp only [Act.put, List.setIfInBounds_toArray]
              refine wpUpto_one (i := 1) rfl (by kernel_rfl) rfl ?_
              intro K hK
              go_simp
              go_at_call 35
              refine HL9.out.mono ?_
              rintro e w9 ⟨rfl, rfl⟩
              refine hK.out _ _ (fun _ => hS.out) ?_
              clear hK K
              refine wpUpto_one (i := 3) rfl (by kernel_rfl) rfl ?_
              intro K hK
              go_simp
              go_at_call 36
              refine HM9.out.mono ?_
              rintro e w10 ⟨rfl, h10⟩
              have HQ10 := hid (HQ9.out.new_ h10)
              replace h10 := hid h10
              refine hK.out _ _ (fun _ => ⟨HQ10.out.box.cell 0, HQ10.out.box.cell 1⟩) ?_
              clear hK K
              refine wpUpto_one (i := 4) rfl (by kernel_rfl) rfl ?_
              intro K hK
              go_simp
              refine hK.out _ _ (fun _ => ⟨HQ10.out.box.cell 0, HQ10.out.box.cell 1⟩) ?_
              clear hK K
              refine wpUpto_done (by kernel_rfl) ?_ _
              go_wp2
              go_roundw
              case rel => exact ⟨j + 1, by omega, by go_num, hid ⟨_, _, _, _, _, HQ10.out⟩, (HB8.out.drew).trans (h10.out.mono (Nat.le_trans HB8.out.size (Nat.le_refl _)))⟩
              case measure => simp [intOf]; omega
            · have q0 : ((a.u : Int) % 6 == 0) = false := by simp; omega
              have q1 : ((a.u : Int) % 6 == 1) = false := by simp; omega
              have q2 : ((a.u : Int) % 6 == 2) = true := by simp; omega
              obtain ⟨xs, k2, bs2, ms2, PR, PP, pb, pg, pl⟩ := rpair_raw W1.out a.size
              have HR := hid (PR _ W1.out.rd W1.out.base)
              unfold wv at HR
              have HP9 := hid PP
              have PB := hid (And.intro pb (And.intro pg pl))
              clear hr PR PP pb pg pl
              go_wp2_with (first
                | (go_at_call 28; refine HR.out.mono ?_; rintro e w5 ⟨x, rfl, A6, c6, A2, c2, rfl, h6, h5⟩; unfold wv; have HX := hid ((h6.alloc (.cells #[.slice A2 ms2.length c2, .int .i64 k2] 57)).frB (((Fr.refl (fun g => g = w4.heap.size) _).setCell (p := ⟨w4.heap.size, 0, none⟩) (.inr rfl) (.slice A2 ms2.length c2)).setCell (p := ⟨w4.heap.size, 1, none⟩) (.inr rfl) (.int .i64 k2)) (fun g hg he => by have := HQ.out.low; omega)); clear h6; have b5 := (W1.out.box.new_ h5.2.2).alloc (.cells #[.slice A2 ms2.length c2, .int .i64 k2] 57); have t5 := (T1.out.new_ h5.2.2).alloc (.cells #[.slice A2 ms2.length c2, .int .i64 k2] 57); have d0 := b5.cell 0; have d1 := b5.cell 1; have f0 := b5.frozen 0; have f1 := b5.frozen 1; have HH := hid (W1.out.half (h5.2.2.alloc h5.2.2.size (.cells #[.slice A2 ms2.length c2, .int .i64 k2] 57)) c2 k2 (h5.1.alloc (.cells #[.slice A2 ms2.length c2, .int .i64 k2] 57))); have hne := t5.ne b5 (by decide); have t7 := (t5.far (p := ⟨w4.heap.size, 0, none⟩) hne (.slice A2 ms2.length c2)).far (p := ⟨w4.heap.size, 1, none⟩) hne (.int .i64 k2); have s1 := t7.cell 1; have s2 := t7.cell 2; simp at d0 d1 s1 s2; clear b5 t5 hne t7; replace h5 := hid h5)
                | (go_at_call 29; refine (HP9.out _ HH.out.rs).mono ?_; rintro e w8 ⟨x, rfl, h8⟩; obtain ⟨A9, c9, rfl, -⟩ := own_form h8.1; have HQ8 := hid (W1.out.full HH.out h5.out.2.1 h8.2.1 h8.2.2 PB.out.1 PB.out.2.1 PB.out.2.2); have HX8 := hid (HX.out.frB h8.2.2 (fun g hg he => by have : g = p := he; have := HQ.out.lowF _ HQ.out.inn; omega)); replace h8 := hid h8)
                | (go_at_call 22; refine (nbytes_same xs A9 A6 c9 c6 w8 _ _ (Rd.of_own h8.out.1) HX8.out).mono ?_; rintro e w9 ⟨rfl, rfl⟩))
              have HB8 := hid ((HB1.out.trans (HH.out.fr.below (fun g hg => by have : g = w4.heap.size := hg; have := HQ.out.low; omega) HB1.out.size)).trans (h8.out.2.2.below (fun g hg => by have : g = p := hg; have := HQ.out.lowF _ HQ.out.inn; omega) (Nat.le_trans HB1.out.size HH.out.fr.size)))
              have HQ9 := hid (HQ8.out.own ((Fr.refl (fun _ => False) _).drew) (fun _ h => h.elim))
              have hle : (if k2 = 0 then ms2.length else 0) = bs2.length := by
                by_cases hk2 : k2 = 0
                · rw [if_pos hk2, HQ9.out.good hk2]
                · rw [if_neg hk2, HQ9.out.bad hk2]; rfl
              have HL9 := hid (left_any _ _ _ _ w8.drew HQ9.out.rs)
              have HM9 := hid (qleft_any ms2 A2 c2 k2 w8.drew)
              unfold wv at HM9
              rw [hle] at HM9
              clear hle
              have hS : Hid ((fun W : World => W.cell? ⟨w4.heap.size, 0, none⟩ = some (.slice A2 ms2.length c2) ∧ W.cell? ⟨w4.heap.size, 1, none⟩ = some (.int .i64 k2)) w8.drew) := hid ⟨HQ9.out.box.cell 0, HQ9.out.box.cell 1⟩
              refine wp_region_upto (fun W : World => W.cell? ⟨w4.heap.size, 0, none⟩ = some (.slice A2 ms2.length c2) ∧ W.cell? ⟨w4.heap.size, 1, none⟩ = some (.int .i64 k2)) 5 5 (by kernel_rfl) (by kernel_rfl) ?_
              refine wpUpto_take (i := 0) (v := ?_) rfl (by kernel_rfl) (by kernel_rfl) (by kernel_rfl) (by kernel_rfl) (by decide) (fun _ _ _ h => h) (Or.inl ⟨by rfl, ?_⟩) hS.out ?_
              rotate_left
              · (intro W hSW; clear hSW; go_simp; rfl)
              refine wpUpto_take (i := 2) (v := .agg #[.slice A2 ms2.length c2, .int .i64 k2]) rfl (by kernel_rfl) (by kernel_rfl) (by kernel_rfl) (by kernel_rfl) (by decide) (fun _ _ _ h => h) (Or.inl ⟨by rfl, ?_⟩) hS.out ?_
              · (intro W hSW; obtain ⟨s0, s1⟩ := hSW; go_simp)
              simp only [Act.put, List.setIfInBounds_toArray]
              refine wpUpto_one (i := 1) rfl (by kernel_rfl) rfl ?_
              intro K hK
              go_simp
              go_at_call 35
              refine HL9.out.mono ?_
              rintro e w9 ⟨rfl, rfl⟩
              refine hK.out _ _ (fun _ => hS.out) ?_
              clear hK K
              refine wpUpto_one (i := 3) rfl (by kernel_rfl) rfl ?_
              intro K hK
              go_simp
              go_at_call 36
              refine HM9.out.mono ?_
              rintro e w10 ⟨rfl, h10⟩
              have HQ10 := hid (HQ9.out.new_ h10)
              replace h10 := hid h10
              refine hK.out _ _ (fun _ => ⟨HQ10.out.box.cell 0, HQ10.out.box.cell 1⟩) ?_
              clear hK K
              refine wpUpto_one (i := 4) rfl (by kernel_rfl) rfl ?_
              intro K hK
              go_simp
              refine hK.out _ _ (fun _ => ⟨HQ10.out.box.cell 0, HQ10.out.box.cell 1⟩) ?_
              clear hK K
              refine wpUpto_done (by kernel_rfl) ?_ _
              go_wp2
              go_roundw
              case rel => exact ⟨j + 1, by omega, by go_num, hid ⟨_, _, _, _, _, HQ10.out⟩, (HB8.out.drew).trans (h10.out.mono (Nat.le_trans HB8.out.size (Nat.le_refl _)))⟩
              case measure => simp [intOf]; omega
            · have q0 : ((a.u : Int) % 6 == 0) = false := by simp; omega
              have q1 : ((a.u : Int) % 6 == 1) = false := by simp; omega
              have q2 : ((a.u : Int) % 6 == 2) = false := by simp; omega
              have q3 : ((a.u : Int) % 6 == 3) = true := by simp; omega
              obtain ⟨v, k2, bs2, ms2, hvl, PR, PP, pb, pg, pl⟩ := rpair_hash W1.out
              have HR := hid (PR _ W1.out.rd W1.out.base)
              unfold wv at HR
              have HP9 := hid PP
              have PB := hid (And.intro pb (And.intro pg pl))
              have hz := hashZ
              have HVL := hid hvl
              have SZ : Hid ((Try.prog.info? 44).map (·.size) = some (ubs v).toArray.size) := hid (by simpa [ubs_length, hvl] using sizeH)
              unfold hv at HR HP9
              clear hr PR PP pb pg pl hvl
              go_wp2_with (first
                | (go_at_call 30; refine HR.out.mono ?_; rintro e w5 ⟨x, rfl, A2, c2, rfl, h5⟩; unfold wv; replace h5 := hid h5)
                | (refine wpList_store_row rfl _ (.tmp 17) (.tmp 127) rfl w5.heap.size (ubs v).toArray rfl rfl 44 (ubs z32).toArray (heap_alloc2_old _ _ _) SZ.out (by simp [ubs_length, z32_length, HVL.out]) (ubs_all _) ?_; generalize hW9 : (World.setRow _ _ _) = W9; have r9 : At W9 (w5.heap.size + 1) #[.slice none 0 0, .int .i64 0] 57 := (by rw [← hW9]; exact (setRow_other _ _ _ _ (by omega)).trans (heap_alloc2_new _ _ _)); have hql : w4.heap.size < w5.heap.size := Nat.lt_of_lt_of_le W1.out.box.lt h5.out.2.2.size; have b9 : At W9 w4.heap.size #[.slice Am ms.length cm, .int .i64 k] 57 := (by rw [← hW9]; exact (setRow_other _ _ _ _ (by omega)).trans (((W1.out.box.new_ h5.out.2.2).alloc _).alloc _)); have p9 : At W9 w5.heap.size (ubs v).toArray 44 := (by rw [← hW9]; exact setRow_heap _ _ _ _ _ _ (heap_alloc2_old _ _ _)); have f9 : Fr (fun _ => False) (wr.alloc (.cells #[.int .i64 a.kind, .int .i64 a.size, .int .u64 a.n, .slice a.A a.bs.length a.c] 37)) W9 := (by rw [← hW9]; exact (((Fr.of_new h5.out.2.2).alloc _).alloc _).setRow (.inl h5.out.2.2.size) _); have z9 : Rb W9 w.heap.size A2 ms2 := (by rw [← hW9]; exact (((h5.out.1.alloc _).alloc _).frB ((Fr.refl (fun g => g = w5.heap.size) _).setRow (.inr rfl) _) (fun g hg he => by have : g = w5.heap.size := he; have := HB1.out.size; have := h5.out.2.2.size; omega))); have x0 := b9.cell 0; have x1 := b9.cell 1; have y0 := b9.frozen 0; have y1 := b9.frozen 1; simp at x0 x1; have n1 : ¬ w4.heap.size = w5.heap.size + 1 := (by omega); have n2 : ¬ w5.heap.size + 1 = w4.heap.size := (by omega); replace b9 := hid b9; replace p9 := hid p9; replace f9 := hid f9; replace z9 := hid z9; replace hql := hid hql; have v0 := r9.cell 0; have v1 := r9.cell 1; have u90 := r9.frozen 0; have u91 := r9.frozen 1; simp at v0 v1; replace hW9 := hid hW9))
              have hVV : At ((W9.setCell ⟨w5.heap.size + 1, 0, none⟩ (.slice A2 ms2.length c2)).setCell ⟨w5.heap.size + 1, 1, none⟩ (.int .i64 k2)) w5.heap.size (ubs v).toArray 44 := (p9.out.far (p := ⟨w5.heap.size + 1, 0, none⟩) (by simp) _).far (p := ⟨w5.heap.size + 1, 1, none⟩) (by simp) _
              have hsz9 := f9.out.size
              have fV := (f9.out.setCell (p := ⟨w5.heap.size + 1, 0, none⟩) (.inl (Nat.le_trans h5.out.2.2.size (Nat.le_succ _))) (.slice A2 ms2.length c2)).setCell (p := ⟨w5.heap.size + 1, 1, none⟩) (.inl (Nat.le_trans h5.out.2.2.size (Nat.le_succ _))) (.int .i64 k2)
              have gV := ((Fr.refl (fun g => g = w5.heap.size + 1) W9).setCell (p := ⟨w5.heap.size + 1, 0, none⟩) (.inr rfl) (.slice A2 ms2.length c2)).setCell (p := ⟨w5.heap.size + 1, 1, none⟩) (.inr rfl) (.int .i64 k2)
              have HH := hid (W1.out.half (fV.below (fun _ h => h.elim) (Nat.le_refl _)) c2 k2 (z9.out.frB gV (fun g hg he => by have : g = w5.heap.size + 1 := he; have := HB1.out.size; have := h5.out.2.2.size; omega)))
              have hPW := (hVV.far (p := ⟨w4.heap.size, 0, none⟩) (by have := hql.out; show w5.heap.size ≠ w4.heap.size; omega) (.slice A2 ms2.length c2)).far (p := ⟨w4.heap.size, 1, none⟩) (by have := hql.out; show w5.heap.size ≠ w4.heap.size; omega) (.int .i64 k2)
              generalize (((W9.setCell ⟨w5.heap.size + 1, 0, none⟩ (.slice A2 ms2.length c2)).setCell ⟨w5.heap.size + 1, 1, none⟩ (.int .i64 k2)).setCell ⟨w4.heap.size, 0, none⟩ (.slice A2 ms2.length c2)).setCell ⟨w4.heap.size, 1, none⟩ (.int .i64 k2) = W7 at HH hPW ⊢
              have HPW := hid hPW
              clear hVV fV gV hPW x0 x1 y0 y1 v0 v1 u90 u91 n1 n2 r9 hsz9
              have HC := hid (HP9.out W7.drew (HH.out.rs.fr ((Fr.refl (fun _ => False) _).drew) (fun _ _ => id)))
              have heq := fun w => neq_hash w v v HVL.out HVL.out
              have hbb : (!(v == v)) = false := by simp
              rw [hbb] at heq
              unfold hv at heq
              clear hbb
              have hS : Hid ((fun W : World => At W w5.heap.size (ubs v).toArray 44) W7.drew) := hid HPW.out
              refine wp_region_upto (fun W : World => At W w5.heap.size (ubs v).toArray 44) 4 4 (by kernel_rfl) (by kernel_rfl) ?_
              refine wpUpto_take (i := 0) (v := ?_) rfl (by kernel_rfl) (by kernel_rfl) (by kernel_rfl) (by kernel_rfl) (by decide) (fun _ _ _ h => h) (Or.inl ⟨by rfl, ?_⟩) hS.out ?_
              rotate_left
              · (intro W hSW; clear hSW; go_simp; rfl)
              refine wpUpto_take (i := 2) (v := .agg (ubs v).toArray) rfl (by kernel_rfl) (by kernel_rfl) (by kernel_rfl) (by kernel_rfl) (by decide) (fun _ _ _ h => h) (Or.inl ⟨by rfl, ?_⟩) hS.out ?_
              · (intro W hSW; refine run_load_row 44 (.tmp 17) ?_ w5.heap.size ?_ 44 (ubs v).toArray _ hSW Try.underlying44 rfl SZ.out <;> rfl)
              simp only [Act.put, List.setIfInBounds_toArray]
              refine wpUpto_one (i := 1) rfl (by kernel_rfl) rfl ?_
              intro K hK
              go_simp
              go_at_call 31
              refine HC.out.mono ?_
              rintro e w8 ⟨rfl, h8⟩
              have HF8 := hid (Fr.trans ((Fr.refl (Only p) W7).drew) h8.2)
              have HP8 : Hid (At w8 w5.heap.size (ubs v).toArray 44) := hid (HPW.out.fr HF8.out (by show ¬ w5.heap.size = p; have h1 : p < w4.heap.size := HQ.out.inn.2; have := hql.out; omega))
              have HQ8 := hid (W1.out.full HH.out h5.out.2.1 h8.1 HF8.out PB.out.1 PB.out.2.1 PB.out.2.2)
              clear h8
              refine hK.out _ _ (fun _ => HP8.out) ?_
              clear hK K
              refine wpUpto_one (i := 3) rfl (by kernel_rfl) rfl ?_
              intro K hK
              go_simp
              refine hK.out _ _ (fun _ => HP8.out) ?_
              clear hK K
              refine wpUpto_done (by kernel_rfl) ?_ _
              go_wp2
              have HB8 := hid ((HB1.out.trans (HH.out.fr.below (fun g hg => by have : g = w4.heap.size := hg; have := HQ.out.low; omega) HB1.out.size)).trans (HF8.out.below (fun g hg => by have : g = p := hg; have := HQ.out.lowF _ HQ.out.inn; omega) (Nat.le_trans HB1.out.size HH.out.fr.size)))
              have HQ9 := hid (HQ8.out.own ((Fr.refl (fun _ => False) _).drew) (fun _ h => h.elim))
              have hle : (if k2 = 0 then ms2.length else 0) = bs2.length := by
                by_cases hk2 : k2 = 0
                · rw [if_pos hk2, HQ9.out.good hk2]
                · rw [if_neg hk2, HQ9.out.bad hk2]; rfl
              have HL9 := hid (left_any _ _ _ _ w8.drew HQ9.out.rs)
              have HM9 := hid (qleft_any ms2 A2 c2 k2 w8.drew)
              unfold wv at HM9
              rw [hle] at HM9
              clear hle
              have hS : Hid ((fun W : World => W.cell? ⟨w4.heap.size, 0, none⟩ = some (.slice A2 ms2.length c2) ∧ W.cell? ⟨w4.heap.size, 1, none⟩ = some (.int .i64 k2)) w8.drew) := hid ⟨HQ9.out.box.cell 0, HQ9.out.box.cell 1⟩
              refine wp_region_upto (fun W : World => W.cell? ⟨w4.heap.size, 0, none⟩ = some (.slice A2 ms2.length c2) ∧ W.cell? ⟨w4.heap.size, 1, none⟩ = some (.int .i64 k2)) 5 5 (by kernel_rfl) (by kernel_rfl) ?_
              refine wpUpto_take (i := 0) (v := ?_) rfl (by kernel_rfl) (by kernel_rfl) (by kernel_rfl) (by kernel_rfl) (by decide) (fun _ _ _ h => h) (Or.inl ⟨by rfl, ?_⟩) hS.out ?_
              rotate_left
              · (intro W hSW; clear hSW; go_simp; rfl)
              refine wpUpto_take (i := 2) (v := .agg #[.slice A2 ms2.length c2, .int .i64 k2]) rfl (by kernel_rfl) (by kernel_rfl) (by kernel_rfl) (by kernel_rfl) (by decide) (fun _ _ _ h => h) (Or.inl ⟨by rfl, ?_⟩) hS.out ?_
              · (intro W hSW; obtain ⟨s0, s1⟩ := hSW; go_simp)
              simp only [Act.put, List.setIfInBounds_toArray]
              refine wpUpto_one (i := 1) rfl (by kernel_rfl) rfl ?_
              intro K hK
              go_simp
              go_at_call 35
              refine HL9.out.mono ?_
              rintro e w9 ⟨rfl, rfl⟩
              refine hK.out _ _ (fun _ => hS.out) ?_
              clear hK K
              refine wpUpto_one (i := 3) rfl (by kernel_rfl) rfl ?_
              intro K hK
              go_simp
              go_at_call 36
              refine HM9.out.mono ?_
              rintro e w10 ⟨rfl, h10⟩
              have HQ10 := hid (HQ9.out.new_ h10)
              replace h10 := hid h10
              refine hK.out _ _ (fun _ => ⟨HQ10.out.box.cell 0, HQ10.out.box.cell 1⟩) ?_
              clear hK K
              refine wpUpto_one (i := 4) rfl (by kernel_rfl) rfl ?_
              intro K hK
              go_simp
              refine hK.out _ _ (fun _ => ⟨HQ10.out.box.cell 0, HQ10.out.box.cell 1⟩) ?_
              clear hK K
              refine wpUpto_done (by kernel_rfl) ?_ _
              go_wp2
              go_roundw
              case rel => exact ⟨j + 1, by omega, by go_num, hid ⟨_, _, _, _, _, HQ10.out⟩, (HB8.out.drew).trans (h10.out.mono (Nat.le_trans HB8.out.size (Nat.le_refl _)))⟩
              case measure => simp [intOf]; omega
            · have q0 : ((a.u : Int) % 6 == 0) = false := by simp; omega
              have q1 : ((a.u : Int) % 6 == 1) = false := by simp; omega
              have q2 : ((a.u : Int) % 6 == 2) = false := by simp; omega
              have q3 : ((a.u : Int) % 6 == 3) = false := by simp; omega
              have q4 : ((a.u : Int) % 6 == 4) = true := by simp; omega
              obtain ⟨v, k2, bs2, ms2, PR, PP, pb, pg, pl⟩ := rpair_flag W1.out
              have HR := hid (PR _ W1.out.rd W1.out.base)
              unfold wv at HR
              have HP9 := hid PP
              have PB := hid (And.intro pb (And.intro pg pl))
              have hvv : (v != v) = false := by simp
              clear hr PR PP pb pg pl
              go_wp2_with (first
                | (go_at_call 32; refine HR.out.mono ?_; rintro e w5 ⟨x, rfl, A2, c2, rfl, h5⟩; unfold wv; have b5 := (W1.out.box.new_ h5.2.2).alloc (.cells #[.slice A2 ms2.length c2, .int .i64 k2] 57); have t5 := (T1.out.new_ h5.2.2).alloc (.cells #[.slice A2 ms2.length c2, .int .i64 k2] 57); have d0 := b5.cell 0; have d1 := b5.cell 1; have f0 := b5.frozen 0; have f1 := b5.frozen 1; have HH := hid (W1.out.half (h5.2.2.alloc h5.2.2.size (.cells #[.slice A2 ms2.length c2, .int .i64 k2] 57)) c2 k2 (h5.1.alloc (.cells #[.slice A2 ms2.length c2, .int .i64 k2] 57))); have hne := t5.ne b5 (by decide); have t7 := (t5.far (p := ⟨w4.heap.size, 0, none⟩) hne (.slice A2 ms2.length c2)).far (p := ⟨w4.heap.size, 1, none⟩) hne (.int .i64 k2); have s1 := t7.cell 1; have s2 := t7.cell 2; simp at d0 d1 s1 s2; clear b5 t5 hne t7; replace h5 := hid h5)
                | (go_at_call 33; refine (HP9.out _ HH.out.rs).mono ?_; rintro e w8 ⟨rfl, h8⟩; have HQ8 := hid (W1.out.full HH.out h5.out.2.1 h8.1 h8.2 PB.out.1 PB.out.2.1 PB.out.2.2); replace h8 := hid h8))
              have HB8 := hid ((HB1.out.trans (HH.out.fr.below (fun g hg => by have : g = w4.heap.size := hg; have := HQ.out.low; omega) HB1.out.size)).trans (h8.out.2.below (fun g hg => by have : g = p := hg; have := HQ.out.lowF _ HQ.out.inn; omega) (Nat.le_trans HB1.out.size HH.out.fr.size)))
              have HQ9 := hid (HQ8.out.own ((Fr.refl (fun _ => False) _).drew) (fun _ h => h.elim))
              have hle : (if k2 = 0 then ms2.length else 0) = bs2.length := by
                by_cases hk2 : k2 = 0
                · rw [if_pos hk2, HQ9.out.good hk2]
                · rw [if_neg hk2, HQ9.out.bad hk2]; rfl
              have HL9 := hid (left_any _ _ _ _ w8.drew HQ9.out.rs)
              have HM9 := hid (qleft_any ms2 A2 c2 k2 w8.drew)
              unfold wv at HM9
              rw [hle] at HM9
              clear hle
              have hS : Hid ((fun W : World => W.cell? ⟨w4.heap.size, 0, none⟩ = some (.slice A2 ms2.length c2) ∧ W.cell? ⟨w4.heap.size, 1, none⟩ = some (.int .i64 k2)) w8.drew) := hid ⟨HQ9.out.box.cell 0, HQ9.out.box.cell 1⟩
              refine wp_region_upto (fun W : World => W.cell? ⟨w4.heap.size, 0, none⟩ = some (.slice A2 ms2.length c2) ∧ W.cell? ⟨w4.heap.size, 1, none⟩ = some (.int .i64 k2)) 5 5 (by kernel_rfl) (by kernel_rfl) ?_
              refine wpUpto_take (i := 0) (v := ?_) rfl (by kernel_rfl) (by kernel_rfl) (by kernel_rfl) (by kernel_rfl) (by decide) (fun _ _ _ h => h) (Or.inl ⟨by rfl, ?_⟩) hS.out ?_
              rotate_left
              · (intro W hSW; clear hSW; go_simp; rfl)
              refine wpUpto_take (i := 2) (v := .agg #[.slice A2 ms2.length c2, .int .i64 k2]) rfl (by kernel_rfl) (by kernel_rfl) (by kernel_rfl) (by kernel_rfl) (by decide) (fun _ _ _ h => h) (Or.inl ⟨by rfl, ?_⟩) hS.out ?_
              · (intro W hSW; obtain ⟨s0, s1⟩ := hSW; go_simp)
              simp only [Act.put, List.setIfInBounds_toArray]
              refine wpUpto_one (i := 1) rfl (by kernel_rfl) rfl ?_
              intro K hK
              go_simp
              go_at_call 35
              refine HL9.out.mono ?_
              rintro e w9 ⟨rfl, rfl⟩
              refine hK.out _ _ (fun _ => hS.out) ?_
              clear hK K
              refine wpUpto_one (i := 3) rfl (by kernel_rfl) rfl ?_
              intro K hK
              go_simp
              go_at_call 36
              refine HM9.out.mono ?_
              rintro e w10 ⟨rfl, h10⟩
              have HQ10 := hid (HQ9.out.new_ h10)
              replace h10 := hid h10
              refine hK.out _ _ (fun _ => ⟨HQ10.out.box.cell 0, HQ10.out.box.cell 1⟩) ?_
              clear hK K
              refine wpUpto_one (i := 4) rfl (by kernel_rfl) rfl ?_
              intro K hK
              go_simp
              refine hK.out _ _ (fun _ => ⟨HQ10.out.box.cell 0, HQ10.out.box.cell 1⟩) ?_
              clear hK K
              refine wpUpto_done (by kernel_rfl) ?_ _
              go_wp2
              go_roundw
              case rel => exact ⟨j + 1, by omega, by go_num, hid ⟨_, _, _, _, _, HQ10.out⟩, (HB8.out.drew).trans (h10.out.mono (Nat.le_trans HB8.out.size (Nat.le_refl _)))⟩
              case measure => simp [intOf]; omega
            · have q0 : ((a.u : Int) % 6 == 0) = false := by simp; omega
              have q1 : ((a.u : Int) % 6 == 1) = false := by simp; omega
              have q2 : ((a.u : Int) % 6 == 2) = false := by simp; omega
              have q3 : ((a.u : Int) % 6 == 3) = false := by simp; omega
              have q4 : ((a.u : Int) % 6 == 4) = false := by simp; omega
              have HPN := hid (fun W => fail_none ⟨p, 0, none⟩ W)
              have HF6 := hid (fail_any _ p k bs _ 6 (by decide) W1.out.rs)
              rw [errV_pos (by decide)] at HF6
              clear hr
              by_cases hn4 : (a.n : Int) % 4 = 0
              · have hn4' : ((a.n : Int) % 4 == 0) = true := by simpa using hn4
                have hn5' : ((a.n : Int).tmod 4 == 0) = true := by rw [Int.tmod_eq_emod_of_nonneg (by omega)]; exact hn4'
                by_cases hk : k = 0
                · subst hk
                  go_wp2_with (first
                    | (go_at_call 34; with_reducible (refine (HPN.out _).mono ?_); rintro e w7 ⟨rfl, rfl⟩)
                    | (go_at_call 34; refine HF6.out.mono ?_; rintro e w8 ⟨rfl, h8⟩; have b5 := W1.out.box.fr h8.2 (fun he => by have h1 : w4.heap.size = p := he; have h2 : p < w4.heap.size := HQ.out.inn.2; omega); have HB5' := hid b5; have d0 := b5.cell 0; have d1 := b5.cell 1; have f0 := b5.frozen 0; have f1 := b5.frozen 1; simp at d0 d1; clear b5; replace h8 := hid h8))
                  obtain ⟨W9, hW9⟩ : ∃ W9, W9 = w8.setCell ⟨w4.heap.size, 1, none⟩ (.int .i64 6) := ⟨_, rfl⟩
                  rw [← hW9]
                  have hf9 : Fr (fun g => g = w4.heap.size) w8 W9 := by rw [hW9]; exact (Fr.refl (fun g => g = w4.heap.size) w8).setCell (p := ⟨w4.heap.size, 1, none⟩) (.inr rfl) _
                  have HQ8 : Hid (QR W9 w.heap.size (fun g => w3.heap.size ≤ g ∧ g < w4.heap.size) p w4.heap.size 6 [] Am cm ms) := hid ⟨h8.out.1.fr hf9 (fun g hg e => by have h1 : g < w4.heap.size := hg.2; have h2 : g = w4.heap.size := e; omega), by rw [hW9]; exact HB5'.out.put 1 _, (W1.out.rd.frB h8.out.2 (fun g hg he => by have : g = p := he; have := HQ.out.lowF _ HQ.out.inn; omega)).frB hf9 (fun g hg he => by have : g = w4.heap.size := he; have := HQ.out.low; omega), HQ.out.cap, HQ.out.out, HQ.out.inn, HQ.out.low, HQ.out.lowF, Nat.le_trans W1.out.base (Nat.le_trans h8.out.2.size hf9.size), fun _ => rfl, fun h => (by cases h), HQ.out.len⟩
                  have HB8 := hid ((HB1.out.trans (h8.out.2.below (fun g hg => by have : g = p := hg; have := HQ.out.lowF _ HQ.out.inn; omega) HB1.out.size)).trans (hf9.below (fun g hg => by have : g = w4.heap.size := hg; have := HQ.out.low; omega) (Nat.le_trans HB1.out.size h8.out.2.size)))
                  clear hW9 hf9 d0 d1 f0 f1
                  obtain ⟨k2, hk2⟩ : ∃ k2 : Nat, k2 = 6 := ⟨_, rfl⟩
                  obtain ⟨bs2, hbs⟩ : ∃ bs2 : List UInt8, bs2 = [] := ⟨_, rfl⟩
                  rw [← hk2, ← hbs] at HQ8
                  clear hk2 hbs
                  have HQ9 := hid (HQ8.out.own ((Fr.refl (fun _ => False) _).drew) (fun _ h => h.elim))
                  have hle : (if k2 = 0 then ms.length else 0) = bs2.length := by
                    by_cases hk2 : k2 = 0
                    · rw [if_pos hk2, HQ9.out.good hk2]
                    · rw [if_neg hk2, HQ9.out.bad hk2]; rfl
                  have HL9 := hid (left_any _ _ _ _ W9.drew HQ9.out.rs)
                  have HM9 := hid (qleft_any ms Am cm k2 W9.drew)
                  unfold wv at HM9
                  rw [hle] at HM9
                  clear hle
                  have hS : Hid ((fun W : World => W.cell? ⟨w4.heap.size, 0, none⟩ = some (.slice Am ms.length cm) ∧ W.cell? ⟨w4.heap.size, 1, none⟩ = some (.int .i64 k2)) W9.drew) := hid ⟨HQ9.out.box.cell 0, HQ9.out.box.cell 1⟩
                  refine wp_region_upto (fun W : World => W.cell? ⟨w4.heap.size, 0, none⟩ = some (.slice Am ms.length cm) ∧ W.cell? ⟨w4.heap.size, 1, none⟩ = some (.int .i64 k2)) 5 5 (by kernel_rfl) (by kernel_rfl) ?_
                  refine wpUpto_take (i := 0) (v := ?_) rfl (by kernel_rfl) (by kernel_rfl) (by kernel_rfl) (by kernel_rfl) (by decide) (fun _ _ _ h => h) (Or.inl ⟨by rfl, ?_⟩) hS.out ?_
                  rotate_left
                  · (intro W hSW; clear hSW; go_simp; rfl)
                  refine wpUpto_take (i := 2) (v := .agg #[.slice Am ms.length cm, .int .i64 k2]) rfl (by kernel_rfl) (by kernel_rfl) (by kernel_rfl) (by kernel_rfl) (by decide) (fun _ _ _ h => h) (Or.inl ⟨by rfl, ?_⟩) hS.out ?_
                  · (intro W hSW; obtain ⟨s0, s1⟩ := hSW; go_simp)
                  simp only [Act.put, List.setIfInBounds_toArray]
                  refine wpUpto_one (i := 1) rfl (by kernel_rfl) rfl ?_
                  intro K hK
                  go_simp
                  go_at_call 35
                  refine HL9.out.mono ?_
                  rintro e w9 ⟨rfl, rfl⟩
                  refine hK.out _ _ (fun _ => hS.out) ?_
                  clear hK K
                  refine wpUpto_one (i := 3) rfl (by kernel_rfl) rfl ?_
                  intro K hK
                  go_simp
                  go_at_call 36
                  refine HM9.out.mono ?_
                  rintro e w10 ⟨rfl, h10⟩
                  have HQ10 := hid (HQ9.out.new_ h10)
                  replace h10 := hid h10
                  refine hK.out _ _ (fun _ => ⟨HQ10.out.box.cell 0, HQ10.out.box.cell 1⟩) ?_
                  clear hK K
                  refine wpUpto_one (i := 4) rfl (by kernel_rfl) rfl ?_
                  intro K hK
                  go_simp
                  refine hK.out _ _ (fun _ => ⟨HQ10.out.box.cell 0, HQ10.out.box.cell 1⟩) ?_
                  clear hK K
                  refine wpUpto_done (by kernel_rfl) ?_ _
                  go_wp2
                  go_roundw
                  case rel => exact ⟨j + 1, by omega, by go_num, hid ⟨_, _, _, _, _, HQ10.out⟩, (HB8.out.drew).trans (h10.out.mono (Nat.le_trans HB8.out.size (Nat.le_refl _)))⟩
                  case measure => simp [intOf]; omega
                · have hkf : ((k : Int) == 0) = false := by simp; omega
                  have hwk : werr k 6 = k := if_neg hk
                  rw [hwk] at HF6
                  clear hwk
                  go_wp2_with (first
                    | (go_at_call 34; with_reducible (refine (HPN.out _).mono ?_); rintro e w7 ⟨rfl, rfl⟩)
                    | (go_at_call 34; refine HF6.out.mono ?_; rintro e w8 ⟨rfl, h8⟩; have b5 := W1.out.box.fr h8.2 (fun he => by have h1 : w4.heap.size = p := he; have h2 : p < w4.heap.size := HQ.out.inn.2; omega); have HB5' := hid b5; have d0 := b5.cell 0; have d1 := b5.cell 1; have f0 := b5.frozen 0; have f1 := b5.frozen 1; simp at d0 d1; clear b5; replace h8 := hid h8))
                  have HQ8 : Hid (QR w8 w.heap.size (fun g => w3.heap.size ≤ g ∧ g < w4.heap.size) p w4.heap.size k [] Am cm ms) := hid ⟨h8.out.1, HB5'.out, W1.out.rd.frB h8.out.2 (fun g hg he => by have : g = p := he; have := HQ.out.lowF _ HQ.out.inn; omega), HQ.out.cap, HQ.out.out, HQ.out.inn, HQ.out.low, HQ.out.lowF, Nat.le_trans W1.out.base h8.out.2.size, fun _ => rfl, fun h => absurd h hk, HQ.out.len⟩
                  have HB8 := hid (HB1.out.trans (h8.out.2.below (fun g hg => by have : g = p := hg; have := HQ.out.lowF _ HQ.out.inn; omega) HB1.out.size))
                  clear d0 d1 f0 f1
                  obtain ⟨bs2, hbs⟩ : ∃ bs2 : List UInt8, bs2 = [] := ⟨_, rfl⟩
                  rw [← hbs] at HQ8
                  clear hbs
                  have HQ9 := hid (HQ8.out.own ((Fr.refl (fun _ => False) _).drew) (fun _ h => h.elim))
                  have hle : (if k = 0 then ms.length else 0) = bs2.length := by
                    by_cases hk2 : k = 0
                    · rw [if_pos hk2, HQ9.out.good hk2]
                    · rw [if_neg hk2, HQ9.out.bad hk2]; rfl
                  have HL9 := hid (left_any _ _ _ _ w8.drew HQ9.out.rs)
                  have HM9 := hid (qleft_any ms Am cm k w8.drew)
                  unfold wv at HM9
                  rw [hle] at HM9
                  clear hle
                  have hS : Hid ((fun W : World => W.cell? ⟨w4.heap.size, 0, none⟩ = some (.slice Am ms.length cm) ∧ W.cell? ⟨w4.heap.size, 1, none⟩ = some (.int .i64 k)) w8.drew) := hid ⟨HQ9.out.box.cell 0, HQ9.out.box.cell 1⟩
                  refine wp_region_upto (fun W : World => W.cell? ⟨w4.heap.size, 0, none⟩ = some (.slice Am ms.length cm) ∧ W.cell? ⟨w4.heap.size, 1, none⟩ = some (.int .i64 k)) 5 5 (by kernel_rfl) (by kernel_rfl) ?_
                  refine wpUpto_take (i := 0) (v := ?_) rfl (by kernel_rfl) (by kernel_rfl) (by kernel_rfl) (by kernel_rfl) (by decide) (fun _ _ _ h => h) (Or.inl ⟨by rfl, ?_⟩) hS.out ?_
                  rotate_left
                  · (intro W hSW; clear hSW; go_simp; rfl)
                  refine wpUpto_take (i := 2) (v := .agg #[.slice Am ms.length cm, .int .i64 k]) rfl (by kernel_rfl) (by kernel_rfl) (by kernel_rfl) (by kernel_rfl) (by decide) (fun _ _ _ h => h) (Or.inl ⟨by rfl, ?_⟩) hS.out ?_
                  · (intro W hSW; obtain ⟨s0, s1⟩ := hSW; go_simp)
                  simp only [Act.put, List.setIfInBounds_toArray]
                  refine wpUpto_one (i := 1) rfl (by kernel_rfl) rfl ?_
                  intro K hK
                  go_simp
                  go_at_call 35
                  refine HL9.out.mono ?_
                  rintro e w9 ⟨rfl, rfl⟩
                  refine hK.out _ _ (fun _ => hS.out) ?_
                  clear hK K
                  refine wpUpto_one (i := 3) rfl (by kernel_rfl) rfl ?_
                  intro K hK
                  go_simp
                  go_at_call 36
                  refine HM9.out.mono ?_
                  rintro e w10 ⟨rfl, h10⟩
                  have HQ10 := hid (HQ9.out.new_ h10)
                  replace h10 := hid h10
                  refine hK.out _ _ (fun _ => ⟨HQ10.out.box.cell 0, HQ10.out.box.cell 1⟩) ?_
                  clear hK K
                  refine wpUpto_one (i := 4) rfl (by kernel_rfl) rfl ?_
                  intro K hK
                  go_simp
                  refine hK.out _ _ (fun _ => ⟨HQ10.out.box.cell 0, HQ10.out.box.cell 1⟩) ?_
                  clear hK K
                  refine wpUpto_done (by kernel_rfl) ?_ _
                  go_wp2
                  go_roundw
                  case rel => exact ⟨j + 1, by omega, by go_num, hid ⟨_, _, _, _, _, HQ10.out⟩, (HB8.out.drew).trans (h10.out.mono (Nat.le_trans HB8.out.size (Nat.le_refl _)))⟩
                  case measure => simp [intOf]; omega
              · have hn4' : ((a.n : Int) % 4 == 0) = false := by simpa using hn4
                have hn5' : ((a.n : Int).tmod 4 == 0) = false := by rw [Int.tmod_eq_emod_of_nonneg (by omega)]; exact hn4'
                go_wp2_with (go_at_call 34; refine (HPN.out _).mono ?_; rintro e w7 ⟨rfl, rfl⟩)
                obtain ⟨w8, hw8⟩ : ∃ w8, w8 = wr.alloc (.cells #[.int .i64 a.kind, .int .i64 a.size, .int .u64 a.n, .slice a.A a.bs.length a.c] 37) := ⟨_, rfl⟩
                have HQ8 : Hid (QR w8 w.heap.size (fun g => w3.heap.size ≤ g ∧ g < w4.heap.size) p w4.heap.size k bs Am cm ms) := hid (hw8 ▸ W1.out)
                have HB8 : Hid (Below w.heap.size w w8) := hid (hw8 ▸ HB1.out)
                rw [← hw8]
                clear hw8
                have HQ9 := hid (HQ8.out.own ((Fr.refl (fun _ => False) _).drew) (fun _ h => h.elim))
                have hle : (if k = 0 then ms.length else 0) = bs.length := by
                  by_cases hk2 : k = 0
                  · rw [if_pos hk2, HQ9.out.good hk2]
                  · rw [if_neg hk2, HQ9.out.bad hk2]; rfl
                have HL9 := hid (left_any _ _ _ _ w8.drew HQ9.out.rs)
                have HM9 := hid (qleft_any ms Am cm k w8.drew)
                unfold wv at HM9
                rw [hle] at HM9
                clear hle
                have hS : Hid ((fun W : World => W.cell? ⟨w4.heap.size, 0, none⟩ = some (.slice Am ms.length cm) ∧ W.cell? ⟨w4.heap.size, 1, none⟩ = some (.int .i64 k)) w8.drew) := hid ⟨HQ9.out.box.cell 0, HQ9.out.box.cell 1⟩
                refine wp_region_upto (fun W : World => W.cell? ⟨w4.heap.size, 0, none⟩ = some (.slice Am ms.length cm) ∧ W.cell? ⟨w4.heap.size, 1, none⟩ = some (.int .i64 k)) 5 5 (by kernel_rfl) (by kernel_rfl) ?_
                refine wpUpto_take (i := 0) (v := ?_) rfl (by kernel_rfl) (by kernel_rfl) (by kernel_rfl) (by kernel_rfl) (by decide) (fun _ _ _ h => h) (Or.inl ⟨by rfl, ?_⟩) hS.out ?_
                rotate_left
                · (intro W hSW; clear hSW; go_simp; rfl)
                refine wpUpto_take (i := 2) (v := .agg #[.slice Am ms.length cm, .int .i64 k]) rfl (by kernel_rfl) (by kernel_rfl) (by kernel_rfl) (by kernel_rfl) (by decide) (fun _ _ _ h => h) (Or.inl ⟨by rfl, ?_⟩) hS.out ?_
                · (intro W hSW; obtain ⟨s0, s1⟩ := hSW; go_simp)
                simp only [Act.put, List.setIfInBounds_toArray]
                refine wpUpto_one (i := 1) rfl (by kernel_rfl) rfl ?_
                intro K hK
                go_simp
                go_at_call 35
                refine HL9.out.mono ?_
                rintro e w9 ⟨rfl, rfl⟩
                refine hK.out _ _ (fun _ => hS.out) ?_
                clear hK K
                refine wpUpto_one (i := 3) rfl (by kernel_rfl) rfl ?_
                intro K hK
                go_simp
                go_at_call 36
                refine HM9.out.mono ?_
                rintro e w10 ⟨rfl, h10⟩
                have HQ10 := hid (HQ9.out.new_ h10)
                replace h10 := hid h10
                refine hK.out _ _ (fun _ => ⟨HQ10.out.box.cell 0, HQ10.out.box.cell 1⟩) ?_
                clear hK K
                refine wpUpto_one (i := 4) rfl (by kernel_rfl) rfl ?_
                intro K hK
                go_simp
                refine hK.out _ _ (fun _ => ⟨HQ10.out.box.cell 0, HQ10.out.box.cell 1⟩) ?_
                clear hK K
                refine wpUpto_done (by kernel_rfl) ?_ _
                go_wp2
                go_roundw
                case rel => exact ⟨j + 1, by omega, by go_num, hid ⟨_, _, _, _, _, HQ10.out⟩, (HB8.out.drew).trans (h10.out.mono (Nat.le_trans HB8.out.size (Nat.le_refl _)))⟩
                case measure => simp [intOf]; omega
          · obtain rfl : j = acts.length := by omega
            have HQ9 := hid (HQ.out.own ((Fr.refl (fun _ => False) _).drew) (fun _ h => h.elim))
            obtain ⟨en, hen⟩ : ∃ en, en = (if k = 0 then (if ms.length = 0 then 0 else 2) else k) := ⟨_, rfl⟩
            have HM9 := hid (qend_any ms.length Am cm k wr.drew)
            unfold wv at HM9
            rw [← hen] at HM9
            have HE : Hid (Calls Try.prog 37 #[.pointer (some ⟨p, 0, none⟩)] wr.drew fun e w' => e = .returned (errV en) ∧ wr.drew = w') := hid (by
              rw [hen]
              by_cases hk : k = 0
              · rw [if_pos hk]
                by_cases hm : ms.length = 0
                · rw [if_pos hm]
                  have := HQ9.out.rs
                  rw [HQ9.out.good hk, List.eq_nil_of_length_eq_zero hm, hk] at this
                  exact end_done _ _ _ _ this
                · rw [if_neg hm]
                  exact end_more _ _ _ _ _ HQ9.out.rs (by rw [HQ9.out.good hk]; omega)
              · rw [if_neg hk]
                have := HQ9.out.rs
                rw [HQ9.out.bad hk] at this
                exact end_done _ _ _ _ this)
            have HEN := hid (enum_any en wr.drew)
            have hee : ((en : Int) == en) = true := by simp
            clear hen
            have hS : Hid ((fun W : World => W.cell? ⟨w4.heap.size, 0, none⟩ = some (.slice Am ms.length cm) ∧ W.cell? ⟨w4.heap.size, 1, none⟩ = some (.int .i64 k)) wr.drew) := hid ⟨HQ9.out.box.cell 0, HQ9.out.box.cell 1⟩
            go_wp2
            refine wp_region_upto (fun W : World => W.cell? ⟨w4.heap.size, 0, none⟩ = some (.slice Am ms.length cm) ∧ W.cell? ⟨w4.heap.size, 1, none⟩ = some (.int .i64 k)) 7 7 (by kernel_rfl) (by kernel_rfl) ?_
            refine wpUpto_take (i := 0) (v := ?_) rfl (by kernel_rfl) (by kernel_rfl) (by kernel_rfl) (by kernel_rfl) (by decide) (fun _ _ _ h => h) (Or.inl ⟨by rfl, ?_⟩) hS.out ?_
            rotate_left
            · (intro W hSW; clear hSW; go_simp; rfl)
            refine wpUpto_take (i := 3) (v := .agg #[.slice Am ms.length cm, .int .i64 k]) rfl (by kernel_rfl) (by kernel_rfl) (by kernel_rfl) (by kernel_rfl) (by decide) (fun _ _ _ h => h) (Or.inl ⟨by rfl, ?_⟩) hS.out ?_
            · (intro W hSW; obtain ⟨s0, s1⟩ := hSW; go_simp)
            simp only [Act.put, List.setIfInBounds_toArray]
            refine wpUpto_one (i := 1) rfl (by kernel_rfl) rfl ?_
            intro K hK
            go_simp
            go_at_call 37
            refine HE.out.mono ?_
            rintro e w9 ⟨rfl, rfl⟩
            refine hK.out _ _ (fun _ => hS.out) ?_
            clear hK K
            refine wpUpto_one (i := 2) rfl (by kernel_rfl) rfl ?_
            intro K hK
            go_simp
            go_at_call 20
            refine HEN.out.mono ?_
            rintro e w9 ⟨rfl, rfl⟩
            refine hK.out _ _ (fun _ => hS.out) ?_
            clear hK K
            refine wpUpto_one (i := 4) rfl (by kernel_rfl) rfl ?_
            intro K hK
            go_simp
            go_at_call 38
            refine HM9.out.mono ?_
            rintro e w10 ⟨rfl, h10⟩
            have HQ10 := hid (HQ9.out.new_ h10)
            replace h10 := hid h10
            refine hK.out _ _ (fun _ => ⟨HQ10.out.box.cell 0, HQ10.out.box.cell 1⟩) ?_
            clear hK K
            refine wpUpto_one (i := 5) rfl (by kernel_rfl) rfl ?_
            intro K hK
            go_simp
            refine hK.out _ _ (fun _ => ⟨HQ10.out.box.cell 0, HQ10.out.box.cell 1⟩) ?_
            clear hK K
            refine wpUpto_one (i := 6) rfl (by kernel_rfl) rfl ?_
            intro K hK
            go_simp
            refine hK.out _ _ (fun _ => ⟨HQ10.out.box.cell 0, HQ10.out.box.cell 1⟩) ?_
            clear hK K
            refine wpUpto_done (by kernel_rfl) ?_ _
            go_wp2
            go_ret
            exact ⟨rfl, (HB.out.drew).trans (h10.out.mono (Nat.le_trans HB.out.size (Nat.le_refl _)))⟩
end Go.Proofs.Ytmgdngpdgjdicaa
