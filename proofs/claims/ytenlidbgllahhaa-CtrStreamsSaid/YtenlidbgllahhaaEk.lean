/-
  Rows that are filled in their order; the document's adding of a round key.
-/
import Derived.Test.YtenlidbgllahhaaEm
import Derived.Test.YtenlidbgllahhaaReg
namespace Go.Proofs.Ytenlidbgllahhaa
open Go.RowKit

/-- The first j bytes filled by f. -/
def upd (b : List UInt8) (f : Nat → UInt8) (j : Nat) : List UInt8 := (List.range j).map f ++ b.drop j
def mk16 (f : Nat → UInt8) : List UInt8 := (List.range 16).map f
theorem mk16_length (f : Nat → UInt8) : (mk16 f).length = 16 := by simp [mk16]
theorem mk16_get (f : Nat → UInt8) (i : Nat) (h : i < 16) : (mk16 f).getD i 0 = f i := by simp [mk16, h]
theorem mk16_self (b : List UInt8) (h : b.length = 16) : mk16 (fun i => b.getD i 0) = b := by
  refine List.ext_getElem (by rw [mk16_length, h]) fun i h1 h2 => ?_
  simp [mk16, h2]
theorem mk16_congr {f g : Nat → UInt8} (h : ∀ i, i < 16 → f i = g i) : mk16 f = mk16 g := List.map_congr_left fun i hi => h i (List.mem_range.1 hi)
theorem upd_zero (b : List UInt8) (f : Nat → UInt8) : upd b f 0 = b := by simp [upd]
theorem upd_length (b : List UInt8) (f : Nat → UInt8) (j : Nat) (h : j ≤ b.length) : (upd b f j).length = b.length := by simp [upd]; omega
theorem upd_all (b : List UInt8) (f : Nat → UInt8) (h : b.length = 16) : upd b f 16 = mk16 f := by simp [upd, mk16, ← h]
theorem upd_get (b : List UInt8) (f : Nat → UInt8) (j i : Nat) (h : j ≤ i) (_ : i < b.length) : (upd b f j).getD i 0 = b.getD i 0 := by
  unfold upd
  rw [List.getD_eq_getElem?_getD, List.getD_eq_getElem?_getD, List.getElem?_append_right (by simp; omega)]
  simp
  congr 2
  omega
theorem upd_succ (b : List UInt8) (f : Nat → UInt8) (j : Nat) (h : j < b.length) : upd b f (j + 1) = (upd b f j).set j (f j) := by
  have hl : ((List.range j).map f).length = j := by simp
  unfold upd
  rw [List.set_append_right _ _ (by omega), hl, Nat.sub_self, List.drop_eq_getElem_cons h, List.set_cons_zero, List.range_succ, List.map_append, List.append_assoc]
  rfl
attribute [irreducible] upd mk16
def n16 : List UInt8 := List.replicate 16 0
theorem n16_length : n16.length = 16 := by simp [n16]
theorem noughts16 : #[Value.int .u8 0, .int .u8 0, .int .u8 0, .int .u8 0, .int .u8 0, .int .u8 0, .int .u8 0, .int .u8 0, .int .u8 0, .int .u8 0, .int .u8 0, .int .u8 0, .int .u8 0, .int .u8 0, .int .u8 0, .int .u8 0] = (ubs n16).toArray := rfl
theorem size16 : (Try.prog.info? 26).map (·.size) = some 16 := by kernel_rfl
theorem ubs_all (h : List UInt8) : (ubs h).toArray.all (·.oneCell') = true :=
  Array.all_eq_true_iff_forall_mem.2 (fun v hv => ubs_one h v (by simpa using hv))
section
variable {w : World} {g : Nat} {t : TypeId}
theorem at_ub_put {bs : List UInt8} (h : At w g (ubs bs).toArray t) (i : Nat) (b : UInt8) : At (w.setCell ⟨g, i, none⟩ (.int .u8 (b.toNat : Int))) g (ubs (bs.set i b)).toArray t := by
  have := h.put i (ub b)
  have e : ubs (bs.set i b) = (ubs bs).set i (ub b) := by simp [ubs, List.map_set]
  rw [e, ← List.setIfInBounds_toArray]
  exact this
theorem at_ub_cell {bs : List UInt8} (h : At w g (ubs bs).toArray t) {i : Nat} (hi : i < bs.length) : w.cell? ⟨g, i, none⟩ = some (.int .u8 ((bs.getD i 0).toNat : Int)) := by
  rw [h.cell i, List.getElem?_toArray, ubs_get, List.getD_eq_getElem?_getD, List.getElem?_eq_getElem hi]
  rfl
theorem rb_cell {B : Nat} {A : Option Addr} {bs : List UInt8} (h : Rb w B A bs) {i : Nat} (hi : i < bs.length) : ∃ b o, A = some ⟨b, o, none⟩ ∧ w.cell? ⟨b, o + i, none⟩ = some (.int .u8 ((bs.getD i 0).toNat : Int)) := by
  obtain ⟨b, o, e, -, hc⟩ := Rd.at_ h (k := i) (ubs_at hi)
  exact ⟨b, o, e, by rw [hc]; simp [hi]⟩
theorem At.setRow_far {w : World} {g j : Nat} {t : TypeId} {cs : Array Value} (h : At w g cs t) (hn : g ≠ j) {ds : Array Value} : At (w.setRow j ds) g cs t := (setRow_other w j g ds hn).trans h
theorem below_drewN {B : Nat} {a w : World} (h : Below B a w) (n : Nat) : Below B a (w.drewN n) := h.trans ⟨rfl, rfl, rfl, Nat.le_refl _, fun _ _ => rfl⟩
theorem below_setRow {B g : Nat} {a w : World} (h : Below B a w) (hg : B ≤ g) (cs : Array Value) : Below B a (w.setRow g cs) :=
  ⟨h.os, h.tape, h.output, by simpa using h.size, fun k hk => (setRow_other w g k cs (by omega)).trans (h.block k hk)⟩
theorem At.new_at {cs : Array Value} {n : Nat} (h : n = w.heap.size) : At (w.alloc (.cells cs t)) n cs t := by subst h; exact At.new _ _ _
end
section
variable {P : Program} {ops : Array Oper} {Q : Exit → Act → World → Prop} {md : Region.Mode} {S : World → Prop} {z : Nat}
/-- Number i is taken first; the frame behind it written out. -/
theorem wpUpto_takeL {i t : Nat} {oi : Oper} {v : Value} {fuel : Nat} {listed : Array Bool} {l : List Value} {d : List Deferred} {w : World} (hi : ops[i]? = some oi) (hd : oi.dst = some t)
    (hs : Region.noSelect ops = true) (hf : Region.free md ops listed i = true) (hr : (Region.ready md ops listed).contains i = true) (hw : waits md ops z i = true) (hiz : i ≠ z)
    (hQ : ∀ c a w, Q (.panic c) (a.put oi.dst v) w → Q (.panic c) a w) (hy : YieldsIf P ops S oi v ⟨l.toArray, d⟩) (hS : S w)
    (h : wpUpto P md ops Q S z fuel (listed.setIfInBounds i true) ⟨(l.set t v).toArray, d⟩ w) : wpUpto P md ops Q S z (fuel + 1) listed ⟨l.toArray, d⟩ w := by
  refine wpUpto_take hi hs hf hr hw hiz hQ hy hS ?_
  rw [hd]
  simpa [Act.put] using h
end
/-- A block with round key n added. -/
def addF (b keys : List UInt8) (n i : Nat) : UInt8 := b.getD i 0 ^^^ keys.getD (16 * n + i) 0
def addL (b keys : List UInt8) (n : Nat) : List UInt8 := mk16 (addF b keys n)
set_option maxRecDepth 100000 in
set_option maxHeartbeats 1000000 in
theorem add_any (b keys : List UInt8) (n : Nat) (A : Option Addr) (c : Nat) (w : World) (hb : b.length = 16) (hk : keys.length = 176) (hn : n ≤ 10) (hr : Rb w w.heap.size A keys) :
    Calls Try.prog 41 #[.agg (ubs b).toArray, .slice A 176 c, .int .i64 (n : Int)] w fun e w' => e = .returned (.agg (ubs (addL b keys n)).toArray) ∧ Below w.heap.size w w' := by
  obtain ⟨W0, hW0⟩ : ∃ W0, W0 = (w.alloc (.cells (ubs b).toArray 26)).alloc (.cells (ubs n16).toArray 26) := ⟨_, rfl⟩
  have hb0 : Below w.heap.size w W0 := by rw [hW0]; exact ((Below.refl _ _).alloc (Nat.le_refl _) _).alloc (by simp) _
  have h0 : At W0 w.heap.size (ubs b).toArray 26 := by rw [hW0]; exact (At.new _ _ _).alloc _
  have h1 : At W0 (w.heap.size + 1) (ubs n16).toArray 26 := by rw [hW0]; exact At.new_at (by simp)
  have HB0 := hid hb0
  have H0 := hid h0
  have H1 := hid h1
  have HR := hid hr
  have HL := hid hb
  have HK := hid hk
  have hz := noughts16
  have HZ := hid (show (Try.prog.info? 26).map (·.size) = some (ubs (addL b keys n)).toArray.size by rw [size16]; simp [ubs_length, addL, mk16_length])
  have HLN := hid (show (addL b keys n).length = 16 from mk16_length _)
  clear hb0 h0 h1 hr hb hk
  subst hW0
  go_enter Try.func41, Try.ntmps41
  go_wp2
  clear hz
  go_loopw [7] (fun vi wr => ∃ j : Nat, j ≤ 16 ∧ vi = .int .i64 j ∧ At wr w.heap.size (ubs (upd b (addF b keys n) j)).toArray 26 ∧ At wr (w.heap.size + 1) (ubs n16).toArray 26 ∧ Below w.heap.size w wr) (fun vi _ => 16 - (intOf vi).toNat)
  case atStart => exact ⟨0, by omega, rfl, by rw [upd_zero]; exact H0.out, H1.out, HB0.out⟩
  case round =>
    clear H0 H1 HB0
    obtain ⟨j, hj, rfl, hA, hZ, hB⟩ := hrel
    have HA := hid hA
    have HZR := hid hZ
    have HB := hid hB
    clear hA hZ hB
    by_cases hlt : j < 16
    · have hjb : j < b.length := by rw [HL.out]; exact hlt
      have c0 := at_ub_cell HA.out (i := j) (by rw [upd_length _ _ _ (by omega)]; exact hjb)
      rw [upd_get b _ j j (Nat.le_refl _) hjb] at c0
      have f0 := HA.out.frozen j
      obtain ⟨g, o, rfl, c1⟩ := rb_cell (HR.out.below HB.out) (i := 16 * n + j) (by rw [HK.out]; omega)
      have HN := hid (upd_succ b (addF b keys n) j hjb)
      have hxx := b_xor 5 (b.getD j 0) (keys.getD (16 * n + j) 0)
      have hF : b.getD j 0 ^^^ keys.getD (16 * n + j) 0 = addF b keys n j := rfl
      rw [hF] at hxx
      obtain ⟨y, hy⟩ : ∃ y, y = addF b keys n j := ⟨_, rfl⟩
      rw [← hy] at hxx HN
      obtain ⟨x1, hx1⟩ : ∃ x, x = b.getD j 0 := ⟨_, rfl⟩
      obtain ⟨x2, hx2⟩ : ∃ x, x = keys.getD (16 * n + j) 0 := ⟨_, rfl⟩
      rw [← hx1] at hxx c0
      rw [← hx2] at hxx c1
      clear hF hy hx1 hx2 hjb
      go_wp2
      refine wp_region_upto (fun W => W = wr.drew) 13 14 (by kernel_rfl) (by kernel_rfl) ?_
      have SV : wr.drew = wr.drew := rfl
      refine wpUpto_takeL (i := 0) (v := .int .i64 (j : Int)) rfl rfl (by kernel_rfl) (by kernel_rfl) (by kernel_rfl) (by kernel_rfl) (by decide) (fun _ _ _ h => h) (Or.inl ⟨by rfl, ?_⟩) SV ?_
      · (intro W hSW; subst hSW; go_simp)
      simp only [List.set_cons_succ, List.set_cons_zero]
      refine wpUpto_takeL (i := 1) (v := .int .i64 (j : Int)) rfl rfl (by kernel_rfl) (by kernel_rfl) (by kernel_rfl) (by kernel_rfl) (by decide) (fun _ _ _ h => h) (Or.inl ⟨by rfl, ?_⟩) SV ?_
      · (intro W hSW; subst hSW; go_simp)
      simp only [List.set_cons_succ, List.set_cons_zero]
      refine wpUpto_takeL (i := 2) (v := .pointer (some ⟨w.heap.size, j, none⟩)) rfl rfl (by kernel_rfl) (by kernel_rfl) (by kernel_rfl) (by kernel_rfl) (by decide) (fun _ _ _ h => h) (Or.inl ⟨by rfl, ?_⟩) SV ?_
      · (intro W hSW; subst hSW; go_simp <;> (exact fun h => absurd h (by omega)))
      simp only [List.set_cons_succ, List.set_cons_zero]
      refine wpUpto_takeL (i := 3) (v := .int .u8 (x1.toNat : Int)) rfl rfl (by kernel_rfl) (by kernel_rfl) (by kernel_rfl) (by kernel_rfl) (by decide) (fun _ _ _ h => h) (Or.inl ⟨by rfl, ?_⟩) SV ?_
      · (intro W hSW; subst hSW; go_simp)
      simp only [List.set_cons_succ, List.set_cons_zero]
      refine wpUpto_takeL (i := 4) (v := .slice (some ⟨g, o, none⟩) 176 c) rfl rfl (by kernel_rfl) (by kernel_rfl) (by kernel_rfl) (by kernel_rfl) (by decide) (fun _ _ _ h => h) (Or.inl ⟨by rfl, ?_⟩) SV ?_
      · (intro W hSW; subst hSW; go_simp)
      simp only [List.set_cons_succ, List.set_cons_zero]
      refine wpUpto_takeL (i := 5) (v := .int .i64 (n : Int)) rfl rfl (by kernel_rfl) (by kernel_rfl) (by kernel_rfl) (by kernel_rfl) (by decide) (fun _ _ _ h => h) (Or.inl ⟨by rfl, ?_⟩) SV ?_
      · (intro W hSW; subst hSW; go_simp)
      simp only [List.set_cons_succ, List.set_cons_zero]
      refine wpUpto_takeL (i := 6) (v := .int .i64 ((16 * n : Nat) : Int)) rfl rfl (by kernel_rfl) (by kernel_rfl) (by kernel_rfl) (by kernel_rfl) (by decide) (fun _ _ _ h => h) (Or.inl ⟨by rfl, ?_⟩) SV ?_
      · (intro W hSW; subst hSW; go_simp; first | done | (rw [IntKind.wrap_i64]; omega) | omega)
      simp only [List.set_cons_succ, List.set_cons_zero]
      refine wpUpto_takeL (i := 7) (v := .int .i64 (j : Int)) rfl rfl (by kernel_rfl) (by kernel_rfl) (by kernel_rfl) (by kernel_rfl) (by decide) (fun _ _ _ h => h) (Or.inl ⟨by rfl, ?_⟩) SV ?_
      · (intro W hSW; subst hSW; go_simp)
      simp only [List.set_cons_succ, List.set_cons_zero]
      refine wpUpto_takeL (i := 8) (v := .int .i64 ((16 * n + j : Nat) : Int)) rfl rfl (by kernel_rfl) (by kernel_rfl) (by kernel_rfl) (by kernel_rfl) (by decide) (fun _ _ _ h => h) (Or.inl ⟨by rfl, ?_⟩) SV ?_
      · (intro W hSW; subst hSW; go_simp; first | done | (rw [IntKind.wrap_i64]; omega) | omega)
      simp only [List.set_cons_succ, List.set_cons_zero]
      refine wpUpto_takeL (i := 9) (v := .pointer (some ⟨g, o + (16 * n + j), none⟩)) rfl rfl (by kernel_rfl) (by kernel_rfl) (by kernel_rfl) (by kernel_rfl) (by decide) (fun _ _ _ h => h) (Or.inl ⟨by rfl, ?_⟩) SV ?_
      · (intro W hSW; subst hSW; go_simp; rw [if_pos (by omega), show (16 * (n : Int) + (j : Int)).toNat = 16 * n + j by omega])
      simp only [List.set_cons_succ, List.set_cons_zero]
      refine wpUpto_takeL (i := 10) (v := .int .u8 (x2.toNat : Int)) rfl rfl (by kernel_rfl) (by kernel_rfl) (by kernel_rfl) (by kernel_rfl) (by decide) (fun _ _ _ h => h) (Or.inl ⟨by rfl, ?_⟩) SV ?_
      · (intro W hSW; subst hSW; go_simp)
      simp only [List.set_cons_succ, List.set_cons_zero]
      refine wpUpto_takeL (i := 11) (v := .int .u8 (y.toNat : Int)) rfl rfl (by kernel_rfl) (by kernel_rfl) (by kernel_rfl) (by kernel_rfl) (by decide) (fun _ _ _ h => h) (Or.inl ⟨by rfl, ?_⟩) SV ?_
      · (intro W hSW; subst hSW; go_simp)
      simp only [List.set_cons_succ, List.set_cons_zero]
      refine wpUpto_takeL (i := 12) (v := .pointer (some ⟨w.heap.size, j, none⟩)) rfl rfl (by kernel_rfl) (by kernel_rfl) (by kernel_rfl) (by kernel_rfl) (by decide) (fun _ _ _ h => h) (Or.inl ⟨by rfl, ?_⟩) SV ?_
      · (intro W hSW; subst hSW; go_simp <;> (exact fun h => absurd h (by omega)))
      simp only [List.set_cons_succ, List.set_cons_zero]
      refine wpUpto_one (i := 13) rfl (by kernel_rfl) rfl ?_
      intro K0 hK0
      go_simp
      refine hK0.out _ _ (fun h => absurd rfl h) ?_
      clear hK0 K0
      refine wpUpto_done (by kernel_rfl) ?_ _
      go_simp
      go_wp2
      go_roundw
      case rel => exact ⟨j + 1, by omega, by go_num, by rw [HN.out]; exact at_ub_put (w := wr.drew) HA.out j y, (At.far (w := wr.drew) HZR.out (p := ⟨w.heap.size, j, none⟩) (by simp) _), (below_drewN HB.out 1).setCell (by simp) _⟩
      case measure => simp [intOf]; omega
    · obtain rfl : j = 16 := by omega
      have ha := HA.out
      rw [upd_all b _ HL.out] at ha
      have HA2 := hid (show At wr w.heap.size (ubs (addL b keys n)).toArray 26 from ha)
      clear ha HA
      go_wp2_with (first
        | (refine wpList_load_row rfl _ (.tmp 3) rfl w.heap.size rfl 26 (ubs (addL b keys n)).toArray (0, 0) _ HA2.out Try.underlying26 rfl HZ.out ?_)
        | (refine wpList_store_row rfl _ (.tmp 6) (.tmp 25) rfl (w.heap.size + 1) (ubs (addL b keys n)).toArray rfl rfl 26 (ubs n16).toArray HZR.out HZ.out ?e5 (ubs_all _) ?e6; rotate_right))
      case e5 => simp [ubs_length, n16_length, HLN.out]
      refine bodyPost_ret (results_cell_row rfl _ _ (w.heap.size + 1) 26 (ubs (addL b keys n)).toArray (0, 0) _ rfl (setRow_heap _ _ _ _ _ _ HZR.out) Try.underlying26 rfl HZ.out) rfl ?_
      exact ⟨rfl, below_setRow HB.out (by omega) _⟩
end Go.Proofs.Ytenlidbgllahhaa
