/-
  The document's Turn of layer 5.
-/
import Derived.Test.YtenlidbgllahhaaGc
namespace Go.Proofs.Ytenlidbgllahhaa
open Go.RowKit

/-- Bytes turned by a stream's. -/
def trF (s b : List UInt8) (i : Nat) : UInt8 := xr (s.getD i 0) (b.getD i 0)
def trL (s b : List UInt8) : List UInt8 := (List.range s.length).map (trF s b)
def turnL (keys c b : List UInt8) : List UInt8 := trL (streamL keys c b.length) b
theorem turnL_length (keys c b : List UInt8) : (turnL keys c b).length = b.length := by simp [turnL, trL, streamL_length]
theorem updn_all (s : List UInt8) (f : Nat → UInt8) : upd s f s.length = (List.range s.length).map f := by simp [upd]
/-- A byte written into a row of the call's own. -/
theorem Own1.put {w W : World} {n cap g : Nat} {bs : List UInt8} (h : Own1 w n bs (.slice (some ⟨g, 0, none⟩) n cap) W) (i : Nat) (x : UInt8) : Own1 w n (bs.set i x) (.slice (some ⟨g, 0, none⟩) n cap) (W.setCell ⟨g, i, none⟩ (.int .u8 (x.toNat : Int))) := by
  refine ⟨by rw [List.length_set]; exact h.len, ⟨by rw [ubs_length, List.length_set, ← h.len, Nat.mul_one], ?_⟩, h.below.setCell (by
    obtain ⟨_, _, e, _, _, _, _, h7⟩ := own_form h.own
    cases e
    exact (h7 _ rfl).2.2.1) _⟩
  rcases h.own.2 with ⟨h1, h2⟩ | ⟨g', cap', cur, h1, h2, h3, h4, h5, h6, h7⟩
  · cases h1
  · cases h1
    refine .inr ⟨g, _, cur.setIfInBounds i (ub x), rfl, h2, At.put h3 i (ub x), h4, h5, by rw [Array.size_setIfInBounds]; exact h6, ?_⟩
    rw [Array.toList_setIfInBounds, List.take_set, h7]
    simp [ubs, List.map_set]
theorem own_cell {w W : World} {n cap g : Nat} {bs : List UInt8} (h : Own1 w n bs (.slice (some ⟨g, 0, none⟩) n cap) W) (i : Nat) (hi : i < n) : W.cell? ⟨g, i, none⟩ = some (.int .u8 ((bs.getD i 0).toNat : Int)) ∧ W.frozen? ⟨g, i, none⟩ = false := by
  refine ⟨?_, ?_⟩
  · obtain ⟨b, o, e, d⟩ := rb_cell (Rd.of_own h.own) (i := i) (by rw [← h.len]; exact hi)
    cases e
    simpa using d
  · rcases h.own.2 with ⟨h1, h2⟩ | ⟨g', cap', cur, h1, h2, h3, h4, h5, h6, h7⟩
    · cases h1
    · cases h1
      exact At.frozen h3 i
theorem Own1.drew1 {w W : World} {n : Nat} {bs : List UInt8} {v : Value} (h : Own1 w n bs v W) : Own1 w n bs v W.drew := ⟨h.len, own_fr (S := fun _ => False) h.own ((Fr.refl _ _).drew) (fun _ _ => id), below_drewN h.below 1⟩
theorem Own1.base {w W0 w' : World} {n : Nat} {bs : List UInt8} {v : Value} (h : Own1 W0 n bs v w') (hb : Below w.heap.size w W0) : Own1 w n bs v w' := by
  refine ⟨h.len, own_mono h.own (fun k hk => ?_), hb.trans (h.below.mono hb.size)⟩
  rcases h.own.2 with ⟨h1, h2⟩ | ⟨g', cap', cur, h1, h2, _⟩
  · subst h1
    cases hk
  · subst h1
    have := hb.size
    have e : g' = k := Option.some.inj hk
    omega
set_option maxRecDepth 100000 in
set_option maxHeartbeats 1000000 in
theorem turnR_any (keys c b : List UInt8) (A B : Option Addr) (ca cb : Nat) (w : World) (hc : c.length = 16) (hk : keys.length = 176) (hr : Rb w w.heap.size A keys) (hb : Rb w w.heap.size B b) (hn : b.length ≤ 100000) :
    Calls Try.prog 25 #[.slice A 176 ca, .agg (ubs c).toArray, .slice B b.length cb] w fun e w' => ∃ A' c', e = .returned (.slice A' b.length c') ∧ Own1 w b.length (turnL keys c b) (.slice A' b.length c') w' := by
  obtain ⟨n, hN⟩ : ∃ n, n = b.length := ⟨_, rfl⟩
  obtain ⟨W0, hW0⟩ : ∃ W0, W0 = w.alloc (.cells (ubs c).toArray 26) := ⟨_, rfl⟩
  have hB0 : Below w.heap.size w W0 := by rw [hW0]; exact (Below.refl _ _).alloc (Nat.le_refl _) _
  have HAT := hid (show At W0 w.heap.size (ubs c).toArray 26 by rw [hW0]; exact At.new _ _ _)
  have HS := hid (streamR_any keys c A ca n W0 hc hk ((hr.below hB0).mono hB0.size) (by omega))
  have HSL := hid (streamL_length keys c n)
  have HB := hid hb
  have HCL := hid hc
  have HNN := hid hN
  have HB0 := hid hB0
  have HT := hid (show turnL keys c b = trL (streamL keys c n) b by rw [turnL, ← hN])
  rw [← hN] at hn ⊢
  have hsz : W0.heap.size = w.heap.size + 1 := by rw [hW0]; simp
  have HSZ := hid hsz
  clear hr hb hc hk hN hB0 hsz
  subst hW0
  go_enter Try.func25, Try.ntmps25
  go_wp2_with (first
    | (refine wpList_load_row rfl _ (.tmp 4) rfl w.heap.size rfl 26 (ubs c).toArray (0, 0) _ HAT.out Try.underlying26 rfl (size16_of HCL.out) ?_)
    | (go_at_call 23; refine HS.out.mono ?_; rintro e w1 ⟨A1, c1, rfl, hO⟩; have HO := hid (hO.base HB0.out); clear hO))
  obtain ⟨s, hs⟩ : ∃ s, s = streamL keys c n := ⟨_, rfl⟩
  rw [← hs] at HO HSL HT
  have HFIN := hid (show upd s (trF s b) n = turnL keys c b by rw [HT.out]; have := updn_all s (trF s b); rw [HSL.out] at this; rw [this, trL, HSL.out])
  clear hs HS HAT HT
  obtain ⟨hrow⟩ : Nonempty ((A1 = none ∧ n = 0) ∨ ∃ g, A1 = some ⟨g, 0, none⟩) := by
    rcases HO.out.own.2 with ⟨h1, h2⟩ | ⟨g', cap', cur, h1, h2, _⟩
    · cases h1
      exact ⟨.inl ⟨rfl, h2⟩⟩
    · cases h1
      exact ⟨.inr ⟨g', rfl⟩⟩
  rcases hrow with ⟨rfl, rfl⟩ | ⟨g, rfl⟩
  · have HE := hid (show Own1 w 0 (turnL keys c b) (.slice none 0 c1) w1 by rw [← HFIN.out, upd_zero]; exact HO.out)
    go_loopw [8] (fun vi wr => vi = .int .i64 0 ∧ wr = w1) (fun _ _ => 0)
    case atStart => exact ⟨rfl, rfl⟩
    case round =>
      obtain ⟨rfl, rfl⟩ := hrel
      go_wp2
      go_ret
      exact ⟨_, _, rfl, HE.out⟩
  · go_loopw [8] (fun vi wr => ∃ i : Nat, i ≤ n ∧ vi = .int .i64 i ∧ Own1 w n (upd s (trF s b) i) (.slice (some ⟨g, 0, none⟩) n c1) wr) (fun vi _ => n - (intOf vi).toNat)
    case atStart => exact ⟨0, by omega, rfl, by rw [upd_zero]; exact HO.out⟩
    case round =>
      clear HO
      obtain ⟨i, hi, rfl, hA⟩ := hrel
      have HA := hid hA
      clear hA
      by_cases hlt : i < n
      · have hib : i < s.length := by rw [HSL.out]; exact hlt
        obtain ⟨c0, f0⟩ := own_cell HA.out i hlt
        rw [upd_get s _ i i (Nat.le_refl _) hib] at c0
        obtain ⟨bb, bo, rfl, d0⟩ := rb_cell (HB.out.below HA.out.below) (i := i) (by rw [← HNN.out]; exact hlt)
        have HN := hid (upd_succ s (trF s b) i hib)
        have hxx := b_xr 5 (s.getD i 0) (b.getD i 0)
        rw [show xr (s.getD i 0) (b.getD i 0) = trF s b i from rfl] at hxx
        obtain ⟨y, hy⟩ : ∃ y, y = trF s b i := ⟨_, rfl⟩
        rw [← hy] at hxx HN
        obtain ⟨x1, hx1⟩ : ∃ x, x = s.getD i 0 := ⟨_, rfl⟩
        obtain ⟨x2, hx2⟩ : ∃ x, x = b.getD i 0 := ⟨_, rfl⟩
        rw [← hx1] at hxx c0
        rw [← hx2] at hxx d0
        have hii : (i : Int) < (n : Int) := by omega
        clear hy hx1 hx2 hib
        go_wp2
        refine wp_region_still_tail 12 (by kernel_rfl) (by kernel_rfl) ?_
        simp only [List.take_succ_cons, List.take_zero, List.drop_succ_cons, List.drop_zero]
        obtain ⟨W2, hW2⟩ : ∃ W2 : World, { wr with drawn := wr.drawn + 1 } = W2 := ⟨_, rfl⟩
        rw [hW2]
        have HV := hid (show Own1 w n (upd s (trF s b) i) (.slice (some ⟨g, 0, none⟩) n c1) W2 by rw [← hW2]; exact HA.out.drew1)
        have e0 : W2.cell? ⟨g, i, none⟩ = some (.int .u8 (x1.toNat : Int)) := by rw [← hW2]; exact c0
        have e1 : W2.cell? ⟨bb, bo + i, none⟩ = some (.int .u8 (x2.toNat : Int)) := by rw [← hW2]; exact d0
        have e2 : W2.frozen? ⟨g, i, none⟩ = false := by rw [← hW2]; exact f0
        clear hW2 c0 f0 d0 HA
        repeat still_step
        refine wpStill_nil ?_
        go_wp2
        go_roundw
        case rel => exact ⟨i + 1, by omega, by go_num, by rw [HN.out]; exact HV.out.put i y⟩
        case measure => simp [intOf]; omega
      · obtain rfl : i = n := by omega
        have ha := HA.out
        rw [HFIN.out] at ha
        have HE := hid ha
        clear ha HA
        go_wp2
        go_ret
        exact ⟨_, _, rfl, HE.out⟩
end Go.Proofs.Ytenlidbgllahhaa
