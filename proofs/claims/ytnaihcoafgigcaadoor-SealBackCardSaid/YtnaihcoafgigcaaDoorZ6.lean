/-
  Counters add up; streams; the document's Stream of layer 5.
  The document's Turn of layer 5.
-/
import Derived.Test.YtnaihcoafgigcaaDoorZ5
import Derived.Test.YtnaihcoafgigcaaDoorEn
import Derived.Test.YtnaihcoafgigcaaDoorEp
namespace Go.Proofs.YtnaihcoafgigcaaDoor
open Go.RowKit

theorem nextL_zero (c : List UInt8) (h : c.length = 16) : nextL c 0 = c := toBE_beN 16 c h
theorem nextL_add (c : List UInt8) (a b : Nat) : nextL (nextL c a) b = nextL c (a + b) := by
  unfold nextL
  rw [beN_toBE, ← toBE_mod 16 ((beN c + a) % 256 ^ 16 + b), Nat.mod_add_mod, toBE_mod, Nat.add_assoc]
/-- The first m blocks of a stream; its first n bytes. -/
def strk (keys c : List UInt8) : Nat → List UInt8
  | 0 => []
  | m + 1 => strk keys c m ++ encL keys (nextL c m)
theorem strk_zero (keys c : List UInt8) : strk keys c 0 = [] := rfl
theorem strk_succ (keys c : List UInt8) (m : Nat) : strk keys c (m + 1) = strk keys c m ++ encL keys (nextL c m) := rfl
theorem encL_length (keys b : List UInt8) : (encL keys b).length = 16 := encK_length keys b 10
theorem strk_length (keys c : List UInt8) (m : Nat) : (strk keys c m).length = 16 * m := by
  induction m with
  | zero => rfl
  | succ m ih => rw [strk_succ, List.length_append, ih, encL_length]; omega
def streamL (keys c : List UInt8) (n : Nat) : List UInt8 := (strk keys c ((n + 15) / 16)).take n
theorem streamL_length (keys c : List UInt8) (n : Nat) : (streamL keys c n).length = n := by
  rw [streamL, List.length_take, strk_length]
  omega
attribute [irreducible] strk
theorem own_take {w : World} {base N n c : Nat} {e : TypeId} {A : Option Addr} {xs : List Value} (h : w.ownsRow base e 1 (.slice A N c) N xs) (hn : n ≤ N) : w.ownsRow base e 1 (.slice A n c) n (xs.take n) := by
  refine ⟨by rw [List.length_take, h.1]; omega, ?_⟩
  rcases h.2 with ⟨h1, h2⟩ | ⟨g, cap, cur, h1, h2, h3, h4, h5, h6, h7⟩
  · cases h1
    have : n = 0 := by omega
    subst this
    exact .inl ⟨rfl, rfl⟩
  · cases h1
    refine .inr ⟨g, _, cur, rfl, h2, h3, by omega, h5, h6, ?_⟩
    rw [← h7, List.take_take]
    congr 1
    omega
/-- What holds between the rounds of Stream. -/
structure StW (w : World) (keys c : List UInt8) (m : Nat) (v : Value) (W : World) : Prop where
  o : Own1 w (16 * m) (strk keys c m) v W
  ctr : At W w.heap.size (ubs (nextL c m)).toArray 22
  far : v.ownBlock ≠ some w.heap.size
theorem StW.start (w : World) (keys c : List UInt8) (hc : c.length = 16) : StW w keys c 0 (.slice none 0 0) (w.alloc (.cells (ubs c).toArray 22)) :=
  ⟨⟨by rw [strk_zero]; rfl, ⟨by rw [strk_zero]; rfl, .inl ⟨rfl, rfl⟩⟩, (Below.refl _ _).alloc (Nat.le_refl _) _⟩, by rw [nextL_zero c hc]; exact At.new _ _ _, by simp [Value.ownBlock]⟩
theorem StW.new {w W W' : World} {keys c : List UInt8} {m : Nat} {v : Value} (h : StW w keys c m v W) (hb : Below W.heap.size W W') : StW w keys c m v W' :=
  ⟨⟨h.o.len, own_fr h.o.own (Fr.of_new (S := fun _ => False) hb) (fun _ _ => id), h.o.below.trans (hb.mono h.o.below.size)⟩, h.ctr.new_ hb, h.far⟩
theorem StW.grow {w W W' : World} {keys c : List UInt8} {m : Nat} {v v' : Value} (h : StW w keys c m v W) (h2 : W'.ownsRow w.heap.size 5 1 v' (16 * m + 16) (ubs (strk keys c m) ++ ubs (encL keys (nextL c m)))) (hg : W.grownBy W' v.ownBlock) (hv : v'.ownBlock = v.ownBlock ∨ v'.ownBlock = some W.heap.size) :
    Own1 w (16 * (m + 1)) (strk keys c (m + 1)) v' W' ∧ At W' w.heap.size (ubs (nextL c m)).toArray 22 ∧ v'.ownBlock ≠ some w.heap.size := by
  have h3 := h.o.more h2 (by rw [encL_length]) hg
  rw [← strk_succ] at h3
  refine ⟨h3, at_grown h.ctr h.o.own (by decide) hg, ?_⟩
  rcases hv with e | e
  · rw [e]; exact h.far
  · rw [e]
    intro e2
    have h4 := h.ctr.lt
    have h5 : W.heap.size = w.heap.size := Option.some.inj e2
    omega
theorem stw_next {w W : World} {keys c : List UInt8} {m : Nat} {v : Value} (h : Own1 w (16 * (m + 1)) (strk keys c (m + 1)) v W ∧ At W w.heap.size (ubs (nextL c m)).toArray 22 ∧ v.ownBlock ≠ some w.heap.size) : StW w keys c (m + 1) v (W.setRow w.heap.size (ubs (nextL c (m + 1))).toArray) := by
  refine ⟨⟨h.1.len, own_fr (S := fun k => k = w.heap.size) h.1.own ((Fr.refl (fun k => k = w.heap.size) W).setRow (g := w.heap.size) (.inr rfl) _) (fun k hk e => h.2.2 (by rw [hk, e])), below_setRow h.1.below (Nat.le_refl _) _⟩, setRow_heap _ _ _ _ _ _ h.2.1, h.2.2⟩
theorem stw_keep {w W W' : World} {keys c : List UInt8} {m : Nat} {v : Value} (h : Own1 w (16 * (m + 1)) (strk keys c (m + 1)) v W ∧ At W w.heap.size (ubs (nextL c m)).toArray 22 ∧ v.ownBlock ≠ some w.heap.size) (hb : Below W.heap.size W W') :
    Own1 w (16 * (m + 1)) (strk keys c (m + 1)) v W' ∧ At W' w.heap.size (ubs (nextL c m)).toArray 22 ∧ v.ownBlock ≠ some w.heap.size :=
  ⟨⟨h.1.len, own_fr h.1.own (Fr.of_new (S := fun _ => False) hb) (fun _ _ => id), h.1.below.trans (hb.mono h.1.below.size)⟩, h.2.1.new_ hb, h.2.2⟩
theorem elemBs : Tryd.prog.elem 55 = 5 := by kernel_rfl
/-- A slice's first bytes. -/
theorem run_slice_to (g n N cap : Nat) (h : n ≤ cap) (W : World) : (Instr.slice 55 (.slice (some ⟨g, 0, none⟩) N cap) none (some (.int .i64 (n : Int))) none).run Tryd.prog W = .ok (.slice (some ⟨g, 0, none⟩) n cap) W := by
  have h := run_slice_h (P := Tryd.prog) (w := W) (t := 55) (a := some ⟨g, 0, none⟩) (len := N) (cap := cap) (by kernel_rfl) .i64 (n : Int) (by omega) (by omega)
  rw [h, elemBs, run_size8]
  simp only [Result.andThen_ok, Int.toNat_natCast, sliced, Nat.zero_mul, Nat.sub_zero]
  split <;> simp [Addr.add]
def lenW : Value → Nat
  | .slice _ n _ => n
  | _ => 0
theorem lenW_slice (A : Option Addr) (n c : Nat) : lenW (.slice A n c) = n := rfl
set_option maxRecDepth 100000 in
set_option maxHeartbeats 1000000 in
theorem streamR_any (keys c : List UInt8) (A : Option Addr) (ca n : Nat) (w : World) (hc : c.length = 16) (hk : keys.length = 176) (hr : Rb w w.heap.size A keys) (hn : n ≤ 100000) :
    Calls Tryd.prog 62 #[.slice A 176 ca, .agg (ubs c).toArray, .int .i64 (n : Int)] w fun e w' => ∃ A' c', e = .returned (.slice A' n c') ∧ Own1 w n (streamL keys c n) (.slice A' n c') w' := by
  obtain ⟨i0, hi, hz0, hz1, hz2⟩ := info_parts infoB
  have H0 := hid (StW.start w keys c hc)
  have HR := hid hr
  have HKL := hid hk
  have HEN := hid (fun (W : World) (b : List UInt8) (hb : b.length = 16) (h : Rb W W.heap.size A keys) => encrypt_any keys b A ca W hb hk h)
  have hz := noughts16
  clear hr hk hc
  go_enter Tryd.func62, Tryd.ntmps62
  go_wp2
  go_loopw [7] (fun v wr => ∃ (m N : Nat) (A3 : Option Addr) (c3 : Nat), v = .slice A3 N c3 ∧ Hid (N = 16 * m) ∧ Hid (m ≤ (n + 15) / 16) ∧ StW w keys c m (.slice A3 N c3) wr) (fun v _ => n + 16 - lenW v)
  case atStart => exact ⟨0, 0, none, 0, rfl, hid rfl, hid (by omega), H0.out⟩
  case round =>
    clear H0
    obtain ⟨m, N, A3, c3, rfl, HN, HM, hS⟩ := hrel
    have HS := hid hS
    clear hS
    by_cases hlt : N < n
    · have HX := hid (nextL_length c m)
      have HEL := hid (encL_length keys (nextL c m))
      have HAD := hid (nextL_add c m 1)
      obtain ⟨x, hx⟩ : ∃ x, x = nextL c m := ⟨_, rfl⟩
      obtain ⟨y, hy⟩ : ∃ y, y = encL keys (nextL c m) := ⟨_, rfl⟩
      have HYX := hid (show encL keys x = y by rw [hy, hx])
      have HCT := hid (show At wr w.heap.size (ubs x).toArray 22 by rw [hx]; exact HS.out.ctr)
      have HXX := hid hx
      have HYY := hid hy
      rw [← hy] at HEL
      rw [← hx] at HX HAD
      clear hx hy
      go_wp2_with (first
        | (refine wpList_load_row rfl _ (.tmp 4) rfl w.heap.size rfl 22 (ubs x).toArray (0, 0) _ HCT.out Tryd.underlying22 rfl (size16_of HX.out) ?_)
        | (go_at_call 77; (have cq := HEN.out wr x HX.out ((HR.out.below HS.out.o.below).mono HS.out.o.below.size)); rw [HYX.out] at cq; refine cq.mono ?_; clear cq; rintro e w1 ⟨rfl, hb1⟩; have H1 := hid (HS.out.new hb1); clear hb1)
        | (refine wpList_store_row rfl _ (.tmp 8) (.tmp 15) rfl w1.heap.size (ubs y).toArray rfl rfl 22 (ubs n16).toArray (heap_alloc_new _ _) (size16_of HEL.out) ?e3 (ubs_all _) ?e4; rotate_right; have H2 := hid (H1.out.new (below_setRow ((Below.refl w1.heap.size w1).alloc (Nat.le_refl _) (.cells (ubs n16).toArray 22)) (Nat.le_refl _) (ubs y).toArray)); have D2 := hid (setRow_heap (w1.alloc (.cells (ubs n16).toArray 22)) w1.heap.size (ubs n16).toArray (ubs y).toArray 22 (0, 0) (At.new w1 _ _)); generalize ((w1.alloc (.cells (ubs n16).toArray 22)).setRow w1.heap.size (ubs y).toArray) = W2 at H2 D2 ⊢)
        | (at_builtin; refine wpList_append_rd rfl (.tmp 16) (.tmp 17) _ rfl w.heap.size 5 i0 (.int .u8 0) 1 Tryd.underlying55 hi hz0 hz1 hz2 rfl (.slice A3 N c3) N (ubs (strk keys c m)) rfl (by rw [HN.out]; have := H2.out.o.own; rwa [HN.out] at this) W2.heap.size (some ⟨w1.heap.size, 0, none⟩) 16 16 (ubs y) rfl (by rw [ubs_length, HEL.out]) (Rd.of_at D2.out 0 (fun j u hj => by rw [Nat.zero_add, List.getElem?_toArray]; exact hj) (At.lt D2.out)) (ubs_one _) (by unfold maxLen; omega) (by omega) H2.out.o.below.size ?_; intro v3 w3 ho3 hg3 hv3; have H3 := hid (H2.out.grow (by rw [← HYY.out, ← HN.out]; exact ho3) hg3 hv3); (have hf3 := own_form ho3); clear ho3 hg3 hv3; obtain ⟨A4, c4, rfl, -⟩ := hf3; have HC3 := hid (show At w3 w.heap.size (ubs x).toArray 22 by rw [HXX.out]; exact H3.out.2.1))
        | (refine wpList_load_row rfl _ (.tmp 4) rfl w.heap.size rfl 22 (ubs x).toArray (0, 0) _ HC3.out Tryd.underlying22 rfl (size16_of HX.out) ?_)
        | (go_at_call 78; (have cq := nextR_any x 1 w3 HX.out (by omega)); rw [HAD.out] at cq; refine cq.mono ?_; clear cq; rintro e w5 ⟨rfl, hb5⟩; have H5 := hid (stw_keep H3.out hb5); have C5 := hid (HC3.out.new_ hb5); clear hb5)
        | (refine wpList_store_row rfl _ (.tmp 4) (.tmp 20) rfl w.heap.size (ubs (nextL c (m + 1))).toArray rfl rfl 22 (ubs x).toArray C5.out (size16_of (nextL_length _ _)) ?e5 (ubs_all _) ?e6; rotate_right; have H6 := hid (stw_next H5.out); generalize (w5.setRow w.heap.size (ubs (nextL c (m + 1))).toArray) = W6 at H6 ⊢))
      case e3 => simp [ubs_length, n16_length, HEL.out]
      case e5 => simp [ubs_length, HX.out, nextL_length]
      try simp only [Act.put]
      go_roundw
      case rel => exact ⟨m + 1, N + 16, A4, c4, rfl, hid (by have := HN.out; omega), hid (by have := HN.out; omega), H6.out⟩
      case measure => rw [lenW_slice, lenW_slice]; omega
    · have HMM := hid (show (n + 15) / 16 = m by have := HN.out; have := HM.out; omega)
      have hle : n ≤ N := by omega
      have ho := HS.out.o.own
      rw [← HN.out] at ho
      have ht := own_take ho hle
      have hE : Own1 w n (streamL keys c n) (.slice A3 n c3) wr := ⟨(streamL_length keys c n).symm, by rw [streamL, HMM.out, show ubs ((strk keys c m).take n) = (ubs (strk keys c m)).take n from List.map_take]; exact ht, HS.out.o.below⟩
      have HE := hid hE
      obtain ⟨A5, c5, e5, h5, -, h6, -, h7⟩ := own_form ho
      cases e5
      have hcap : n ≤ c3 := by omega
      clear ht hE ho HS HR
      rcases A3 with _ | ⟨g, off, spot⟩
      · obtain ⟨rfl, rfl⟩ := h6 rfl
        obtain rfl : n = 0 := by omega
        clear h5 h6 h7 hcap
        go_wp2
        go_ret
        exact ⟨_, _, rfl, HE.out⟩
      · obtain ⟨e1, e2, -, -⟩ := h7 _ rfl
        simp only at e1 e2
        subst e1 e2
        have hs := run_slice_to g n N c3 hcap
        clear h5 h6 h7 hcap
        go_wp2
        go_ret
        exact ⟨_, _, rfl, HE.out⟩
end Go.Proofs.YtnaihcoafgigcaaDoor

namespace Go.Proofs.YtnaihcoafgigcaaDoor
open Go.RowKit

/-- Bytes turned by a stream's. -/
def trF (s b : List UInt8) (i : Nat) : UInt8 := xr (s.getD i 0) (b.getD i 0)
def trL (s b : List UInt8) : List UInt8 := (List.range s.length).map (trF s b)
def turnL (keys c b : List UInt8) : List UInt8 := trL (streamL keys c b.length) b
theorem turnL_length (keys c b : List UInt8) : (turnL keys c b).length = b.length := by simp [turnL, trL, streamL_length]
theorem updn_all (s : List UInt8) (f : Nat → UInt8) : upd s f s.length = (List.range s.length).map f := by simp [upd]
/-- A byte written into a row of the call's own. -/
theorem Own1.put {w W : World} {n cap g : Nat} {bs : List UInt8} (h : Own1 w n bs (.slice (some ⟨g, 0, none⟩) n cap) W) (i : Nat) (x : UInt8) : Own1 w n (bs.set i x) (.slice (some ⟨g, 0, none⟩) n cap) (W.setCell ⟨g, i, none⟩ (.int .u8 (x.toNat : Int))) := by
  refine ⟨by rw [List.length_set]; exact h.len, ⟨by rw [ubs_length, List.length_set, ← h.len, Nat.mul_one], ?_⟩, h.below.setCell (by
    obtain ⟨_, _, e, _, _, _, _, h7⟩ := own_form h.own
    cases e
    exact (h7 _ rfl).2.2.1) _⟩
  rcases h.own.2 with ⟨h1, h2⟩ | ⟨g', cap', cur, h1, h2, h3, h4, h5, h6, h7⟩
  · cases h1
  · cases h1
    refine .inr ⟨g, _, cur.setIfInBounds i (ub x), rfl, h2, At.put h3 i (ub x), h4, h5, by rw [Array.size_setIfInBounds]; exact h6, ?_⟩
    rw [Array.toList_setIfInBounds, List.take_set, h7]
    simp [ubs, List.map_set]
theorem own_cell {w W : World} {n cap g : Nat} {bs : List UInt8} (h : Own1 w n bs (.slice (some ⟨g, 0, none⟩) n cap) W) (i : Nat) (hi : i < n) : W.cell? ⟨g, i, none⟩ = some (.int .u8 ((bs.getD i 0).toNat : Int)) ∧ W.frozen? ⟨g, i, none⟩ = false := by
  refine ⟨?_, ?_⟩
  · obtain ⟨b, o, e, d⟩ := rb_cell (Rd.of_own h.own) (i := i) (by rw [← h.len]; exact hi)
    cases e
    simpa using d
  · rcases h.own.2 with ⟨h1, h2⟩ | ⟨g', cap', cur, h1, h2, h3, h4, h5, h6, h7⟩
    · cases h1
    · cases h1
      exact At.frozen h3 i
theorem Own1.drew1 {w W : World} {n : Nat} {bs : List UInt8} {v : Value} (h : Own1 w n bs v W) : Own1 w n bs v W.drew := ⟨h.len, own_fr (S := fun _ => False) h.own ((Fr.refl _ _).drew) (fun _ _ => id), below_drewN h.below 1⟩
theorem Own1.base {w W0 w' : World} {n : Nat} {bs : List UInt8} {v : Value} (h : Own1 W0 n bs v w') (hb : Below w.heap.size w W0) : Own1 w n bs v w' := by
  refine ⟨h.len, own_mono h.own (fun k hk => ?_), hb.trans (h.below.mono hb.size)⟩
  rcases h.own.2 with ⟨h1, h2⟩ | ⟨g', cap', cur, h1, h2, _⟩
  · subst h1
    cases hk
  · subst h1
    have := hb.size
    have e : g' = k := Option.some.inj hk
    omega
set_option maxRecDepth 100000 in
set_option maxHeartbeats 1000000 in
theorem turnR_any (keys c b : List UInt8) (A B : Option Addr) (ca cb : Nat) (w : World) (hc : c.length = 16) (hk : keys.length = 176) (hr : Rb w w.heap.size A keys) (hb : Rb w w.heap.size B b) (hn : b.length ≤ 100000) :
    Calls Tryd.prog 44 #[.slice A 176 ca, .agg (ubs c).toArray, .slice B b.length cb] w fun e w' => ∃ A' c', e = .returned (.slice A' b.length c') ∧ Own1 w b.length (turnL keys c b) (.slice A' b.length c') w' := by
  obtain ⟨n, hN⟩ : ∃ n, n = b.length := ⟨_, rfl⟩
  obtain ⟨W0, hW0⟩ : ∃ W0, W0 = w.alloc (.cells (ubs c).toArray 22) := ⟨_, rfl⟩
  have hB0 : Below w.heap.size w W0 := by rw [hW0]; exact (Below.refl _ _).alloc (Nat.le_refl _) _
  have HAT := hid (show At W0 w.heap.size (ubs c).toArray 22 by rw [hW0]; exact At.new _ _ _)
  have HS := hid (streamR_any keys c A ca n W0 hc hk ((hr.below hB0).mono hB0.size) (by omega))
  have HSL := hid (streamL_length keys c n)
  have HB := hid hb
  have HCL := hid hc
  have HNN := hid hN
  have HB0 := hid hB0
  have HT := hid (show turnL keys c b = trL (streamL keys c n) b by rw [turnL, ← hN])
  rw [← hN] at hn ⊢
  have hsz : W0.heap.size = w.heap.size + 1 := by rw [hW0]; simp
  have HSZ := hid hsz
  clear hr hb hc hk hN hB0 hsz
  subst hW0
  go_enter Tryd.func44, Tryd.ntmps44
  go_wp2_with (first
    | (refine wpList_load_row rfl _ (.tmp 4) rfl w.heap.size rfl 22 (ubs c).toArray (0, 0) _ HAT.out Tryd.underlying22 rfl (size16_of HCL.out) ?_)
    | (go_at_call 62; refine HS.out.mono ?_; rintro e w1 ⟨A1, c1, rfl, hO⟩; have HO := hid (hO.base HB0.out); clear hO))
  obtain ⟨s, hs⟩ : ∃ s, s = streamL keys c n := ⟨_, rfl⟩
  rw [← hs] at HO HSL HT
  have HFIN := hid (show upd s (trF s b) n = turnL keys c b by rw [HT.out]; have := updn_all s (trF s b); rw [HSL.out] at this; rw [this, trL, HSL.out])
  clear hs HS HAT HT
  obtain ⟨hrow⟩ : Nonempty ((A1 = none ∧ n = 0) ∨ ∃ g, A1 = some ⟨g, 0, none⟩) := by
    rcases HO.out.own.2 with ⟨h1, h2⟩ | ⟨g', cap', cur, h1, h2, _⟩
    · cases h1
      exact ⟨.inl ⟨rfl, h2⟩⟩
    · cases h1
      exact ⟨.inr ⟨g', rfl⟩⟩
  rcases hrow with ⟨rfl, rfl⟩ | ⟨g, rfl⟩
  · have HE := hid (show Own1 w 0 (turnL keys c b) (.slice none 0 c1) w1 by rw [← HFIN.out, upd_zero]; exact HO.out)
    go_loopw [8] (fun vi wr => vi = .int .i64 0 ∧ wr = w1) (fun _ _ => 0)
    case atStart => exact ⟨rfl, rfl⟩
    case round =>
      obtain ⟨rfl, rfl⟩ := hrel
      go_wp2
      go_ret
      exact ⟨_, _, rfl, HE.out⟩
  · go_loopw [8] (fun vi wr => ∃ i : Nat, i ≤ n ∧ vi = .int .i64 i ∧ Own1 w n (upd s (trF s b) i) (.slice (some ⟨g, 0, none⟩) n c1) wr) (fun vi _ => n - (intOf vi).toNat)
    case atStart => exact ⟨0, by omega, rfl, by rw [upd_zero]; exact HO.out⟩
    case round =>
      clear HO
      obtain ⟨i, hi, rfl, hA⟩ := hrel
      have HA := hid hA
      clear hA
      by_cases hlt : i < n
      · have hib : i < s.length := by rw [HSL.out]; exact hlt
        obtain ⟨c0, f0⟩ := own_cell HA.out i hlt
        rw [upd_get s _ i i (Nat.le_refl _) hib] at c0
        obtain ⟨bb, bo, rfl, d0⟩ := rb_cell (HB.out.below HA.out.below) (i := i) (by rw [← HNN.out]; exact hlt)
        have HN := hid (upd_succ s (trF s b) i hib)
        have hxx := b_xr 5 (s.getD i 0) (b.getD i 0)
        rw [show xr (s.getD i 0) (b.getD i 0) = trF s b i from rfl] at hxx
        obtain ⟨y, hy⟩ : ∃ y, y = trF s b i := ⟨_, rfl⟩
        rw [← hy] at hxx HN
        obtain ⟨x1, hx1⟩ : ∃ x, x = s.getD i 0 := ⟨_, rfl⟩
        obtain ⟨x2, hx2⟩ : ∃ x, x = b.getD i 0 := ⟨_, rfl⟩
        rw [← hx1] at hxx c0
        rw [← hx2] at hxx d0
        have hii : (i : Int) < (n : Int) := by omega
        clear hy hx1 hx2 hib
        go_wp2
        refine wp_region_still_tail 12 (by kernel_rfl) (by kernel_rfl) ?_
        simp only [List.take_succ_cons, List.take_zero, List.drop_succ_cons, List.drop_zero]
        obtain ⟨W2, hW2⟩ : ∃ W2 : World, { wr with drawn := wr.drawn + 1 } = W2 := ⟨_, rfl⟩
        rw [hW2]
        have HV := hid (show Own1 w n (upd s (trF s b) i) (.slice (some ⟨g, 0, none⟩) n c1) W2 by rw [← hW2]; exact HA.out.drew1)
        have e0 : W2.cell? ⟨g, i, none⟩ = some (.int .u8 (x1.toNat : Int)) := by rw [← hW2]; exact c0
        have e1 : W2.cell? ⟨bb, bo + i, none⟩ = some (.int .u8 (x2.toNat : Int)) := by rw [← hW2]; exact d0
        have e2 : W2.frozen? ⟨g, i, none⟩ = false := by rw [← hW2]; exact f0
        clear hW2 c0 f0 d0 HA
        repeat still_step
        refine wpStill_nil ?_
        go_wp2
        go_roundw
        case rel => exact ⟨i + 1, by omega, by go_num, by rw [HN.out]; exact HV.out.put i y⟩
        case measure => simp [intOf]; omega
      · obtain rfl : i = n := by omega
        have ha := HA.out
        rw [HFIN.out] at ha
        have HE := hid ha
        clear ha HA
        go_wp2
        go_ret
        exact ⟨_, _, rfl, HE.out⟩
end Go.Proofs.YtnaihcoafgigcaaDoor
