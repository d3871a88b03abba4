/-
  The program's Turn of layer 5.
-/
import Derived.Test.YtnaihcoafgigcaaDoorZ7
import Derived.Test.YtnaihcoafgigcaaDoorZ6
import Derived.Test.YtnaihcoafgigcaaDoorY1
import Derived.Shelf.Abstract
namespace Go.Proofs.YtnaihcoafgigcaaDoor
open Go.RowKit Go.Shelf

attribute [local go_sem] Oper.semAt_some

/-- Byte i turned. -/
def pf (keys c b : List UInt8) (i : Nat) : UInt8 := xr (b.getD i 0) ((encL keys (nextL c (i / 16))).getD (i % 16) 0)
theorem strk_get (keys c : List UInt8) (m i : Nat) (h : i < 16 * m) : (strk keys c m).getD i 0 = (encL keys (nextL c (i / 16))).getD (i % 16) 0 := by
  induction m with
  | zero => omega
  | succ m ih =>
    rw [strk_succ, List.getD_eq_getElem?_getD]
    by_cases h2 : i < 16 * m
    · rw [List.getElem?_append_left (by rw [strk_length]; exact h2), ← ih h2, List.getD_eq_getElem?_getD]
    · rw [List.getElem?_append_right (by rw [strk_length]; omega), strk_length, show i / 16 = m by omega, show i - 16 * m = i % 16 by omega, List.getD_eq_getElem?_getD]
theorem streamL_get (keys c : List UInt8) (n i : Nat) (h : i < n) : (streamL keys c n).getD i 0 = (encL keys (nextL c (i / 16))).getD (i % 16) 0 := by
  rw [← strk_get keys c ((n + 15) / 16) i (by omega), streamL, List.getD_eq_getElem?_getD, List.getD_eq_getElem?_getD, List.getElem?_take, if_pos h]
theorem pf_all (keys c b : List UInt8) : upd b (pf keys c b) b.length = turnL keys c b := by
  rw [updn_all, turnL, trL, streamL_length]
  refine List.map_congr_left fun i hi => ?_
  rw [pf, trF, streamL_get keys c b.length i (List.mem_range.1 hi)]
  unfold xr
  exact UInt8.xor_comm _ _
/-- The slice that is left in round k. -/
def restV (g L k : Nat) : Value := .slice (some ⟨g, 16 * k, none⟩) (L - 16 * k) (L - 16 * k)
/-- What holds between the rounds of Turn. -/
structure TuW (w : World) (keys c b : List UInt8) (g T k : Nat) (W : World) : Prop where
  num : k = 0 ∨ 16 * k < b.length
  rest : At W T #[restV g b.length k] 55
  row : At W g (ubs (upd b (pf keys c b) (min (16 * k) b.length))).toArray 5
  below : Below w.heap.size w W
theorem at_free {W W' : World} {g B : Nat} {cs : Array Value} {t : TypeId} {row : Option Nat} (h : At W g cs t) (hB : g < B) (hg : W.grownBy W' row) (hr : ∀ r, row = some r → B ≤ r) : At W' g cs t :=
  (hg.block g h.lt (fun e => by have := hr g e.symm; omega)).trans h
theorem TuW.free {w : World} {keys c b : List UInt8} {g T B : Nat} (hg : g < B) (hT : T < B) (hw : w.heap.size ≤ B) : FreeFrom B (fun k W => TuW w keys c b g T k W) := fun _ _ _ _ h hg' hr =>
  ⟨h.num, at_free h.rest hT hg' hr, at_free h.row hg hg' hr, h.below.grown hg' h.below.size (fun k e => Nat.le_trans hw (hr k e))⟩
theorem TuW.start {w W : World} {keys c b : List UInt8} {g T L : Nat} (hL : L = b.length) (h1 : At W T #[.slice (some ⟨g, 0, none⟩) L L] 55) (h2 : At W g (ubs b).toArray 5) (h3 : Below w.heap.size w W) : TuW w keys c b g T 0 W :=
  ⟨.inl rfl, by subst hL; exact h1, by rw [Nat.mul_zero, Nat.zero_min, upd_zero]; exact h2, h3⟩
theorem min_16 (ats : Array TypeId) (ty : TypeId) (r : Nat) : Builtin.min_ ats ty #[.int .i64 16, .int .i64 (r : Int)] = pure (.int .i64 ((min 16 r : Nat) : Int)) := by
  have h : (if (r : Int) < 16 then (r : Int) else 16) = ((min 16 r : Nat) : Int) := by split <;> omega
  simp [Builtin.min_, Builtin.min2, h]
/-- What a body keeps. -/
structure Kept (S : Nat → Prop) (A B : World) : Prop where
  oth : KeepsOthers A B
  out : KeepsOut S A B
theorem Kept.refl (S : Nat → Prop) (A : World) : Kept S A A := ⟨KeepsOthers.refl A, KeepsOut.refl S A⟩
theorem Kept.trans {S : Nat → Prop} {A B D : World} (h : Kept S A B) (k : Kept S B D) : Kept S A D := ⟨h.oth.trans k.oth, h.out.trans k.out⟩
theorem Kept.setCell {S : Nat → Prop} {A B : World} (h : Kept S A B) (p : Addr) (hp : S p.block) (v : Value) : Kept S A (B.setCell p v) := ⟨h.oth.trans (KeepsOthers.setCell _ _ _), h.out.trans (KeepsOut.setCell _ _ hp _)⟩
theorem Kept.drewN {S : Nat → Prop} {A B : World} (h : Kept S A B) (n : Nat) : Kept S A (B.drewN n) := ⟨⟨h.oth.size, h.oth.same⟩, ⟨h.out.size, h.out.same⟩⟩
theorem Kept.of_below {S : Nat → Prop} {A B : World} (h : Below A.heap.size A B) : Kept S A B := ⟨others_of_below h, KeepsOut.of_below h⟩
/-- What holds in a body's rounds. -/
structure TuL (S : Nat → Prop) (w W : World) (f : Nat → UInt8) (b y : List UInt8) (g T Bx o r i : Nat) (wr : World) : Prop where
  rest : At wr T #[.slice (some ⟨g, o, none⟩) r r] 55
  row : At wr g (ubs (upd b f (o + i))).toArray 5
  blk : At wr Bx (ubs y).toArray 22
  below : Below w.heap.size w wr
  kept : Kept S W wr
theorem TuL.drewN {S : Nat → Prop} {w W wr : World} {f : Nat → UInt8} {b y : List UInt8} {g T Bx o r i : Nat} (h : TuL S w W f b y g T Bx o r i wr) (n : Nat) : TuL S w W f b y g T Bx o r i (wr.drewN n) := ⟨h.rest, h.row, h.blk, below_drewN h.below n, h.kept.drewN n⟩
theorem TuL.put {S : Nat → Prop} {w W wr : World} {f : Nat → UInt8} {b y : List UInt8} {g T Bx o r i j : Nat} (h : TuL S w W f b y g T Bx o r i wr) (hj : j = o + i) (hS : S g) (hb : j < b.length) (hw : w.heap.size ≤ g) : TuL S w W f b y g T Bx o r (i + 1) (wr.setCell ⟨g, j, none⟩ (.int .u8 ((f j).toNat : Int))) := by
  refine ⟨h.rest.far (p := ⟨g, j, none⟩) (At.ne h.rest h.row (by decide)) _, ?_, h.blk.far (p := ⟨g, j, none⟩) (At.ne h.blk h.row (by decide)) _, h.below.setCell (by exact hw) _, h.kept.setCell _ hS _⟩
  rw [← Nat.add_assoc, ← hj, upd_succ b f j hb]
  have := h.row
  rw [← hj] at this
  exact at_ub_put this j (f j)
set_option maxRecDepth 100000 in
set_option maxHeartbeats 4000000 in
theorem pturn_any (key c b : List UInt8) (p B : Option Addr) (cb : Nat) (w : World) (hk : key.length = 16) (hc : c.length = 16) (hci : Cip w key p) (hb : Rb w w.heap.size B b) (hn : b.length ≤ 100000) :
    Calls Tryd.prog 42 #[.pointer p, .agg (ubs c).toArray, .slice B b.length cb] w fun e w' => ∃ g, e = .returned (.slice (some ⟨g, 0, none⟩) b.length b.length) ∧ w.heap.size ≤ g ∧ At w' g (ubs (turnL (rks key 11) c b)).toArray 5 ∧ Below w.heap.size w w' := by
  obtain ⟨L, hL⟩ : ∃ L, L = b.length := ⟨_, rfl⟩
  obtain ⟨W0, hW0⟩ : ∃ W0, W0 = (w.alloc (.cells (ubs c).toArray 22)).alloc (.cells (ubs (List.replicate L 0)).toArray 5) := ⟨_, rfl⟩
  have hb0 : Below w.heap.size w W0 := by rw [hW0]; exact ((Below.refl _ _).alloc (Nat.le_refl _) _).alloc (by simp) _
  have HAG := hid (show At W0 (w.heap.size + 1) (ubs (List.replicate L 0)).toArray 5 by rw [hW0]; exact At.new_at (by simp))
  have HAC := hid (show At W0 w.heap.size (ubs c).toArray 22 by rw [hW0]; exact (At.new _ _ _).alloc _)
  have HBR := hid (show Rb W0 W0.heap.size B b from (hb.below hb0).mono hb0.size)
  have HB0 := hid hb0
  have HCI := hid hci
  have HKL := hid hk
  have HCL := hid hc
  have HL := hid hL
  have HSZ := hid (show W0.heap.size = w.heap.size + 2 by rw [hW0]; simp)
  have hmk := run_makeB L (by omega)
  have HF := hid (fun (w1 : World) (h : Fr (fun k => k = w.heap.size + 1) W0 w1) => hb0.trans (h.below (B := w.heap.size) (fun k e => by omega) hb0.size))
  have HSP := hid (show splice (ubs (List.replicate L 0)) 0 ((ubs b).take L) = ubs b by rw [List.take_of_length_le (by rw [ubs_length]; omega)]; simp [splice, ubs_length, hL])
  rw [← hL] at hn ⊢
  clear hk hc hci hb hb0 hL
  subst hW0
  refine (callsIn_wide (n := 6)).1 ?_
  refine callsIn_of_wp_marks Tryd.func42 rfl trivial ?_ rfl
  refine wpIn_wide.2 ?_
  simp only [Tryd.ntmps42, List.size_toArray, List.length_cons, List.length_nil, Nat.reduceAdd, Nat.reduceSub, Array.replicate_succ, Array.replicate_zero, List.push_toArray, List.append_toArray, List.nil_append, List.cons_append]
  go_wp2_with (first
    | (refine wpList_copy_rd rfl (.tmp 15) (.tmp 16) _ _ rfl 5 Tryd.underlying55 sizeU8 (w.heap.size + 1) 0 L L _ B L cb rfl rfl (ubs (List.replicate L 0)) 5 HAG.out (ubs b) HBR.out ?c1 ?c2 (ubs_one _) ?c3; rotate_right; intro w1 hg1 hf1; rw [HSP.out] at hg1; have HG1 := hid hg1; have HF1 := hid (HF.out w1 hf1); have HC1 := hid (HAC.out.fr hf1 (by omega)); clear hg1 hf1)
    | (refine wpList_load_row rfl _ (.tmp 4) rfl w.heap.size rfl 22 (ubs c).toArray (0, 0) _ (HC1.out.alloc _) Tryd.underlying22 rfl (size16_of HCL.out) ?_)
    | (go_at_call 58; refine (pblocks_any key c p _ HKL.out (HCI.out.below (HF1.out.alloc HF1.out.size _))).mono ?_; rintro e w2 ⟨D, C, rfl, hD, hC, hI, hb2⟩; have HD := hid hD; have HC := hid hC; have HI := hid hI; have HB2 := hid hb2; clear hD hC hI hb2))
  case c1 => rw [ubs_length, ← HL.out]
  case c2 => simp [ubs_length]
  have hsz1 : (w1.alloc (.cells #[.slice (some ⟨w.heap.size + 1, 0, none⟩) L L] 55)).heap.size = w1.heap.size + 1 := by simp
  rw [hsz1] at HD HC HI HB2
  have HGL := hid HG1.out.lt
  have HWL := hid HF1.out.size
  have HS := hid (TuW.start (w := w) (keys := rks key 11) (c := c) HL.out (At.below (At.new w1 #[.slice (some ⟨w.heap.size + 1, 0, none⟩) L L] 55) HB2.out (by omega)) (At.below (HG1.out.alloc _) HB2.out (by have := HGL.out; omega)) ((HF1.out.alloc HWL.out _).trans (HB2.out.mono (by have := HWL.out; omega))))
  have HW2 := hid HI.out.ctr.lt
  obtain ⟨T, hT⟩ : ∃ T, T = w1.heap.size := ⟨_, rfl⟩
  obtain ⟨g, hg⟩ : ∃ g, g = w.heap.size + 1 := ⟨_, rfl⟩
  rw [← hT] at HS HW2 HGL HWL HI HC HD ⊢
  rw [← hg] at HS HGL ⊢
  have HGW := hid (show w.heap.size ≤ g by omega)
  clear hmk HF HSP HAG HAC HBR HB0 HCI HSZ HG1 HC1 HB2 hsz1 hT hg HF1
  have HE := hid (blocks_ends (6 - 1) (T + 1) D C (fun k => k = T ∨ k = g) key c w2 HKL.out HCL.out HI.out (fun k h => by have := HW2.out; have := HGL.out; omega) (fun h => by have := HD.out; have := HGL.out; omega) (fun h => by have := HC.out; have := HGL.out; omega))
  refine (wpIn_wide (n := 6)).1 ?_
  refine wpIn_rangeFunc_ends (F := Fence.wide) (n := 6) rfl (by omega) (gf := 72) (lb := #[.pointer (some ⟨T + 1, 0, none⟩), .pointer (some ⟨D, 0, none⟩)]) rfl trivial (enters_of Tryd.func72 (by kernel_rfl) rfl)
    HE.out (fun h k => h.trans k) (fun W l o o' _ h hc => KeepsOut.putObj W l o o' h hc) (Below.refl _ _) (fun _ => rfl)
    (L / 16 + 1) (fun k W => TuW w (rks key 11) c b g T k W)
    (fun cd W => cd = .exit 0 ∧ At W g (ubs (turnL (rks key 11) c b)).toArray 5 ∧ Below w.heap.size w W)
    (fun k a' W => ∃ Bx, (TuW w (rks key 11) c b g T k W ∧ At W Bx (ubs (encL (rks key 11) (nextL c k))).toArray 22) ∧ a' = { tmps := #[.pointer p, .agg (ubs c).toArray, .slice B L cb, undef, .pointer (some ⟨w.heap.size, 0, none⟩), undef, .slice none 0 0, .slice (some ⟨g, 0, none⟩) L L, .pointer (some ⟨T, 0, none⟩), .pointer (some ⟨Bx, 0, none⟩), undef, undef, .slice B L cb, .int .i64 L, .slice (some ⟨g, 0, none⟩) L L, .slice (some ⟨g, 0, none⟩) L L, .slice B L cb, .int .i64 L, .slice (some ⟨g, 0, none⟩) L L, .pointer p, .agg (ubs c).toArray, .func (.func 72) #[] #[.pointer (some ⟨T + 1, 0, none⟩), .pointer (some ⟨D, 0, none⟩)], .agg (ubs (encL (rks key 11) (nextL c k))).toArray, undef, undef, undef, undef, undef, undef, undef, undef, undef, undef, undef, undef, undef, undef, undef, undef, undef, undef, undef, undef, undef, undef, undef, undef], defers := [] })
    (TuW.free (by have := HGL.out; have := HW2.out; omega) (by have := HW2.out; omega) (by have := HWL.out; have := HW2.out; omega))
    ?ix ?bo ?bound HS.out ?assign ?body ?stop
  case ix => exact fun cd W W' row h hg hr => ⟨h.1, at_free (B := w2.heap.size) h.2.1 (by have := HGL.out; have := HW2.out; omega) hg (fun r e => (hr r e).1), h.2.2.grown hg h.2.2.size (fun k e => by have := (hr k e).1; have := HWL.out; have := HW2.out; omega)⟩
  case bo =>
    rintro a' k W W' row ⟨Bx, ⟨h1, h2⟩, e⟩ hg hr
    exact ⟨Bx, ⟨TuW.free (B := w2.heap.size) (by have := HGL.out; have := HW2.out; omega) (by have := HW2.out; omega) (by have := HWL.out; have := HW2.out; omega) k W W' row h1 hg (fun r e => (hr r e).1), at_own Bx _ (fun (_ : Unit) => _) () W W' row h2 hg (fun r e => (hr r e).2)⟩, e⟩
  case bound => exact fun k W h => by have := h.num; have := HL.out; omega
  case assign =>
    intro l k W K hI hK
    have HEL := hid (encL_length (rks key 11) (nextL c k))
    have hb2 : Below W.heap.size W ((W.alloc (.cells (ubs n16).toArray 22)).setRow W.heap.size (ubs (encL (rks key 11) (nextL c k))).toArray) := below_setRow ((Below.refl _ _).alloc (Nat.le_refl _) _) (Nat.le_refl _) _
    have HK := hid (fun a' e => hK a' _ ((others_of_below hb2).from _) (KeepsOut.of_below hb2) ⟨W.heap.size, ⟨⟨hI.num, hI.rest.new_ hb2, hI.row.new_ hb2, hI.below.trans (hb2.mono hI.below.size)⟩, setRow_heap _ _ (ubs n16).toArray _ _ _ (At.new _ _ _)⟩, e⟩)
    clear hK hb2 hI HS
    have hz := noughts16
    simp only [elB]
    gi_wp2_with (refine wpListIn_store_row rfl _ (.tmp 9) (.tmp 22) rfl W.heap.size (ubs (encL (rks key 11) (nextL c k))).toArray rfl rfl 22 (ubs n16).toArray (At.new _ _ _) (size16_of HEL.out) ?e5 (ubs_all _) ?e6; rotate_right)
    case e5 => rw [ubs_length, ubs_length, n16_length, HEL.out]
    exact HK.out _ rfl
  case body =>
    rintro l k a' W ⟨Bx, ⟨hI, hX⟩, rfl⟩
    obtain ⟨o, ho⟩ : ∃ o, o = 16 * k := ⟨_, rfl⟩
    obtain ⟨r, hr⟩ : ∃ r, r = L - o := ⟨_, rfl⟩
    obtain ⟨y, hy⟩ : ∃ y, y = encL (rks key 11) (nextL c k) := ⟨_, rfl⟩
    have hmin := min_16 #[3, 3] 3 r
    obtain ⟨m, hm⟩ : ∃ m, m = min 16 r := ⟨_, rfl⟩
    have HNUM := hid hI.num
    rw [← HL.out] at HNUM
    have hoL : o ≤ L := by have := HNUM.out; omega
    have hrest : At W T #[.slice (some ⟨g, o, none⟩) r r] 55 := by have := hI.rest; rw [restV, ← HL.out, ← ho, ← hr] at this; exact this
    have HW0 := hid (show TuL (fun k => k = T ∨ k = g) w W (pf (rks key 11) c b) b y g T Bx o r 0 W from ⟨hrest, by have := hI.row; rw [← ho, ← HL.out, Nat.min_eq_left hoL] at this; exact this, by rw [hy]; exact hX, hI.below, Kept.refl _ _⟩)
    have HY := hid hy
    have HYL := hid (show y.length = 16 by rw [hy]; exact encL_length _ _)
    have HO := hid ho
    have HR := hid hr
    have HM := hid hm
    have hcT := hrest.cell 0
    rw [← hm] at hmin
    rw [← hy]
    clear hI hX hy ho hr hm hrest hoL
    gi_wp2
    clear hcT hmin
    gi_loopg [27] m (fun gk vi wr => ∃ i : Nat, Hid (gk + i = m) ∧ vi = .int .i64 i ∧ TuL (fun k => k = T ∨ k = g) w W (pf (rks key 11) c b) b y g T Bx o r i wr)
    case atStart => exact ⟨0, rfl, rfl, HW0.out⟩
    case round =>
      clear HW0
      obtain ⟨i, HGK, rfl, hA⟩ := hrel
      have HA := hid hA
      clear hA
      by_cases hlt : i < m
      · obtain ⟨j, hj⟩ : ∃ j, j = o + i := ⟨_, rfl⟩
        have hjb : j < b.length := by have := HM.out; have := HR.out; have := HL.out; omega
        have hi16 : i < 16 := by have := HM.out; omega
        have HPUT := hid (fun (W2 : World) (h : TuL (fun k => k = T ∨ k = g) w W (pf (rks key 11) c b) b y g T Bx o r i W2) => h.put hj (.inr rfl) hjb HGW.out)
        have HPF := hid (show pf (rks key 11) c b j = xr (b.getD j 0) (y.getD i 0) by rw [pf, HY.out, show j / 16 = k by have := HO.out; omega, show j % 16 = i by have := HO.out; omega])
        have hV := HA.out.drewN 1
        have HV := hid (show TuL (fun k => k = T ∨ k = g) w W (pf (rks key 11) c b) b y g T Bx o r i wr.drew from hV)
        have cT := HV.out.rest.cell 0
        have cg := at_ub_cell HV.out.row (i := j) (by rw [upd_length _ _ _ (by omega)]; exact hjb)
        rw [upd_get b _ _ j (by omega) hjb] at cg
        have cy := at_ub_cell HV.out.blk (i := i) (by rw [HYL.out]; exact hi16)
        have fg := HV.out.row.frozen j
        have hxx := b_xr 5 (b.getD j 0) (y.getD i 0)
        rw [← HPF.out] at hxx
        obtain ⟨z, hz⟩ : ∃ z, z = pf (rks key 11) c b j := ⟨_, rfl⟩
        rw [← hz] at hxx HPUT
        obtain ⟨x1, hx1⟩ : ∃ x, x = b.getD j 0 := ⟨_, rfl⟩
        obtain ⟨x2, hx2⟩ : ∃ x, x = y.getD i 0 := ⟨_, rfl⟩
        rw [← hx1] at hxx cg
        rw [← hx2] at hxx cy
        have ir : (i : Int) < (r : Int) := by have := HM.out; omega
        have i16 : (i : Int) < 16 := by omega
        have ej : o + i = j := hj.symm
        have HAD := hid (HPUT.out wr HA.out)
        clear hz hx1 hx2 hj hjb hi16 hV HPF HPUT HV
        gi_wp2
        gi_region
        all_goals (gi_wp2; gi_roundg (m - (i + 1)))
        all_goals first | exact ⟨i + 1, hid (by have := HGK.out; omega), by go_num, HAD.out.drewN 1⟩ | (have := HGK.out; omega)
      · obtain rfl : i = m := by have := HGK.out; omega
        have hnum := HNUM.out
        have hm := HM.out
        have hr := HR.out
        have ho := HO.out
        have hbl := HL.out
        by_cases hlast : i = r
        · subst hlast
          have HFIN := hid (show At wr g (ubs (turnL (rks key 11) c b)).toArray 5 by have := HA.out.row; rw [show o + i = b.length by omega, pf_all] at this; exact this)
          have cT := HA.out.rest.cell 0
          have fT := HA.out.rest.frozen 0
          clear hnum hm hr ho hbl
          have HAR := hid HA.out
          clear HGK
          gi_wp2
          have hk2 := HAR.out.kept.setCell ⟨T, 0, none⟩ (.inl rfl) (.slice (some ⟨g, o, none⟩) 0 0)
          exact ⟨hk2.oth.from _, rfl, HFIN.out.far (p := ⟨T, 0, none⟩) (by have := HGL.out; simp; omega) _, HAR.out.below.setCell (by exact HWL.out) _⟩
        · have hlt2 : i < r := by omega
          have HNX := hid (show i = 16 ∧ 16 * (k + 1) < L ∧ o = 16 * k ∧ r = L - o by omega)
          have cT := HA.out.rest.cell 0
          have fT := HA.out.rest.frozen 0
          obtain ⟨q, hq⟩ : ∃ q, r - i = q := ⟨_, rfl⟩
          have hq0 : ((q : Int) == 0) = false := by simp; omega
          have HQ := hid hq
          clear hnum hm hr ho hbl hlast
          gi_wp2
          have hk2 := HA.out.kept.setCell ⟨T, 0, none⟩ (.inl rfl) (.slice (some ⟨g, o + i, none⟩) q q)
          obtain ⟨rfl, hx1, rfl, hx3⟩ := HNX.out
          refine ⟨hk2.oth.from _, hk2.out, .inr (by have := HL.out; omega), ?_, ?_, HA.out.below.setCell (by exact HWL.out) _⟩
          · have h4 := HA.out.rest.put 0 (.slice (some ⟨g, 16 * k + 16, none⟩) q q)
            rw [restV, ← HL.out, show L - 16 * (k + 1) = q by have := HQ.out; omega, show 16 * (k + 1) = 16 * k + 16 by omega]
            exact h4
          · rw [← HL.out, Nat.min_eq_left (by omega), show 16 * (k + 1) = 16 * k + 16 by omega]
            exact HA.out.row.far (p := ⟨T, 0, none⟩) (At.ne HA.out.row HA.out.rest (by decide)) _
  case stop =>
    rintro D' cd W hD ⟨rfl, hA, hB⟩ hK
    have HA := hid hA
    have HB := hid hB
    have HK := hid hK
    clear hA hB hK
    refine wpIn_wide.2 ?_
    go_wp2
    refine ⟨by simp, .inl ⟨_, _, rfl, run_takeDeferred HK.out, ?_⟩⟩
    have hgr := grownBy_putObj' W D' (.deferred none)
    have hgD : g ≠ D' := by have := HGL.out; have := HW2.out; omega
    exact ⟨_, results_tmp rfl _ _ _, g, rfl, HGW.out, (hgr.block _ HA.out.lt (by simpa using hgD)).trans HA.out, HB.out.grown hgr HB.out.size (fun k e => by cases e; have := HWL.out; have := HW2.out; omega)⟩
end Go.Proofs.YtnaihcoafgigcaaDoor
