/-
  HmacMacs, walked.
-/
import Derived.Test.YtobehmjmmnmflaaDoorHh
import Derived.BigQuiet
import Derived.Deep.Cut
namespace Go.Proofs.YtobehmjmmnmflaaDoor
open Go.RowKit

section
variable {P : Program} {ops : Array Oper} {Q : Exit → Act → World → Prop} {md : Region.Mode} {S : World → Prop} {z : Nat}
/-- One alone can come up, behind a guard that lets it. -/
theorem wpUpto_oneG {i : Nat} {o : Oper} {fuel : Nat} {listed : Array Bool} {a : Act} {w : World} (ho : ops[i]? = some o) (hr : Region.ready md ops listed = [i]) (hg : Region.wanted o (yielded ops a.tmps) = true)
    (h : ∀ K : Act → World → Prop, RowKit.Hid (∀ a' w', (i ≠ z → S w') → wpUpto P md ops Q S z fuel (listed.setIfInBounds i true) a' w' → K a' w') → o.wp P a w K Q) : wpUpto P md ops Q S z (fuel + 1) listed a w := by
  refine ⟨fun h0 => (by rw [hr] at h0; cases h0), fun j hj => ?_⟩
  rw [hr] at hj
  obtain rfl : j = i := by simpa using hj
  unfold wpOp
  rw [ho]
  simp only [hg, if_true]
  exact .inl (h _ (fun _ _ h1 h2 => ⟨h1, h2⟩))
end
/-- What holds while the law goes on: the arguments, the tag, the block key. -/
structure LmA (w : World) (k a b : List UInt8) (K A B : Option Addr) (W : World) : Prop where
  rk : Rb W W.heap.size K k
  ra : Rb W W.heap.size A a
  rb : Rb W W.heap.size B b
  below : Below w.heap.size w W
theorem LmA.next {w W W' : World} {k a b : List UInt8} {K A B : Option Addr} (h : LmA w k a b K A B W) (hb : Below W.heap.size W W') : LmA w k a b K A B W' :=
  ⟨(h.rk.below hb).mono hb.size, (h.ra.below hb).mono hb.size, (h.rb.below hb).mono hb.size, h.below.trans (hb.mono h.below.size)⟩
structure LmB (w : World) (k a b : List UInt8) (K A B : Option Addr) (m : List UInt8) (C : Nat) (W : World) : Prop where
  la : LmA w k a b K A B W
  hsh : At W C (ubs m).toArray 36
theorem LmB.next {w W W' : World} {k a b m : List UInt8} {K A B : Option Addr} {C : Nat} (h : LmB w k a b K A B m C W) (hb : Below W.heap.size W W') : LmB w k a b K A B m C W' :=
  ⟨h.la.next hb, h.hsh.new_ hb⟩
structure LmC (w : World) (k a b : List UInt8) (K A B : Option Addr) (m : List UInt8) (C : Nat) (c : List UInt8) (D : Nat) (W : World) : Prop where
  lb : LmB w k a b K A B m C W
  blk : At W D (ubs c).toArray 38
theorem LmC.next {w W W' : World} {k a b m c : List UInt8} {K A B : Option Addr} {C D : Nat} (h : LmC w k a b K A B m C c D W) (hb : Below W.heap.size W W') : LmC w k a b K A B m C c D W' :=
  ⟨h.lb.next hb, h.blk.new_ hb⟩
theorem LmC.drew {w W : World} {k a b m c : List UInt8} {K A B : Option Addr} {C D : Nat} (h : LmC w k a b K A B m C c D W) : LmC w k a b K A B m C c D W.drew :=
  ⟨⟨⟨h.lb.la.rk, h.lb.la.ra, h.lb.la.rb, below_drewN h.lb.la.below 1⟩, h.lb.hsh⟩, h.blk⟩
theorem LmA.start {w W : World} {k a b : List UInt8} {K A B : Option Addr} (h : LmA w k a b K A B W) (m : List UInt8) : LmB w k a b K A B m W.heap.size ((W.alloc (.cells (ubs n32).toArray 36)).setRow W.heap.size (ubs m).toArray) :=
  ⟨h.next (stored_below W m), stored_at W m⟩
theorem LmB.start {w W : World} {k a b m : List UInt8} {K A B : Option Addr} {C : Nat} (h : LmB w k a b K A B m C W) (c : List UInt8) : LmC w k a b K A B m C c W.heap.size ((W.alloc (.cells (ubs n64).toArray 38)).setRow W.heap.size (ubs c).toArray) :=
  ⟨h.next (below_setRow ((Below.refl _ _).alloc (Nat.le_refl _) _) (Nat.le_refl _) _), setRow_heap _ _ (ubs n64).toArray _ _ _ (At.new _ _ _)⟩
/-- Two parts in a literal. -/
def p2 (a b : List UInt8) (A B : Option Addr) (ca cb : Nat) : List Part := [⟨A, a, ca⟩, ⟨B, b, cb⟩]
theorem joined_p2 (a b : List UInt8) (A B : Option Addr) (ca cb : Nat) : joined (p2 a b A B ca cb) = a ++ b := joined_two _ _
theorem LmA.handed {w W : World} {k a b : List UInt8} {K A B : Option Addr} (h : LmA w k a b K A B W) (ca cb : Nat) (hT : Tabs w) (lk : k.length ≤ 3000) (la : (a ++ b).length ≤ 3000) :
    Handed k K (p2 a b A B ca cb) (some ⟨W.heap.size, 0, none⟩) (W.alloc (.cells #[.slice A a.length ca, .slice B b.length cb] 34)) := by
  have hb : Below W.heap.size W (W.alloc (.cells #[.slice A a.length ca, .slice B b.length cb] 34)) := (Below.refl _ _).alloc (Nat.le_refl _) _
  have h2 := h.next hb
  exact ⟨h2.rk, rd_parts W (p2 a b A B ca cb), by intro p hp; simp only [p2, List.mem_cons, List.not_mem_nil, or_false] at hp; rcases hp with rfl | rfl; exact h2.ra; exact h2.rb, by omega, by rw [joined_p2]; omega, by simp [p2], hT.below h2.below⟩
theorem stored64_at (w : World) (h : List UInt8) : At ((w.alloc (.cells (ubs n64).toArray 38)).setRow w.heap.size (ubs h).toArray) w.heap.size (ubs h).toArray 38 := setRow_heap _ _ (ubs n64).toArray _ _ _ (At.new _ _ _)
set_option maxRecDepth 100000 in
set_option maxHeartbeats 16000000 in
theorem macs_law (k a b : List UInt8) (K A B : Option Addr) (ck ca cb : Nat) (w : World) (hk : Rb w w.heap.size K k) (ha : Rb w w.heap.size A a) (hb : Rb w w.heap.size B b)
    (lk : k.length ≤ 140737488351232) (la : a.length ≤ 140737488351232) (lb : b.length ≤ 140737488351232) (hT : Tabs w) (hR : Tabr w) (hI : Tab w 1 IV.l) :
    Calls Tryd.prog 4 #[.slice K k.length ck, .slice A a.length ca, .slice B b.length cb] w fun e w' => e = .returned (.bool true) ∧ Below w.heap.size w w' := by
  obtain ⟨i0, hi, hz0, hz1, hz2⟩ := info_parts infoB
  have L0 := hid (show LmA w k a b K A B w from ⟨hk, ha, hb, Below.refl _ _⟩)
  have HT := hid hT
  have HR := hid hR
  have HI := hid hI
  clear hk ha hb hT hR hI
  by_cases hbig : 3000 < k.length + a.length + b.length
  · obtain ⟨x, hx⟩ : ∃ x, x = k.length := ⟨_, rfl⟩
    obtain ⟨y, hy⟩ : ∃ x, x = a.length := ⟨_, rfl⟩
    obtain ⟨z, hz⟩ : ∃ x, x = b.length := ⟨_, rfl⟩
    rw [← hx] at lk hbig ⊢
    rw [← hy] at la hbig ⊢
    rw [← hz] at lb hbig ⊢
    clear hx hy hz L0
    go_enter Tryd.func4, Tryd.ntmps4
    go_wp2_with (go_at_call 13; refine (alive3_any _ HT.out).mono ?_; rintro e w1 ⟨rfl, hb1⟩; have HB1 := hid hb1; clear hb1)
    go_ret
    exact ⟨rfl, HB1.out⟩
  · have HO := hid own_start
    have HLK := hid (show k.length ≤ 3000 by omega)
    have HLA := hid (show (a ++ b).length ≤ 3000 by rw [List.length_append]; omega)
    obtain ⟨d, hd⟩ : ∃ d, d = a ++ b := ⟨_, rfl⟩
    have HD := hid hd
    have HDL := hid (show d.length ≤ 3000 by rw [hd, List.length_append]; omega)
    obtain ⟨m, hm⟩ : ∃ m, m = macL k d := ⟨_, rfl⟩
    have HM := hid hm
    have HML := hid (show m.length = 32 by rw [hm, macL_length])
    obtain ⟨c, hc⟩ : ∃ c, c = blockL k := ⟨_, rfl⟩
    have HC := hid hc
    have HCL := hid (show c.length = 64 by rw [hc, blockL_length])
    have KM := hid (fun (W : World) (h : LmA w k a b K A B W) => show Calls Tryd.prog 16 #[.slice K k.length ck, .slice (some ⟨W.heap.size, 0, none⟩) 2 2] (W.alloc (.cells #[.slice A a.length ca, .slice B b.length cb] 34)) (fun e w' => e = .returned (.agg (ubs m).toArray) ∧ Below (W.alloc (.cells #[.slice A a.length ca, .slice B b.length cb] 34)).heap.size (W.alloc (.cells #[.slice A a.length ca, .slice B b.length cb] 34)) w') by
      have := (h.handed ca cb HT.out HLK.out HLA.out).mac ck 2
      rw [joined_p2, ← HD.out, ← HM.out] at this
      exact this)
    have KS := hid (fun (W : World) (h : LmA w k a b K A B W) => show Calls Tryd.prog 18 #[.slice K k.length ck, .slice (some ⟨W.heap.size, 0, none⟩) 2 2] (W.alloc (.cells #[.slice A a.length ca, .slice B b.length cb] 34)) (fun e w' => ∃ g, e = .returned (.slice (some ⟨g, 0, none⟩) 16 16) ∧ At w' g (ubs (m.take 16)).toArray 5 ∧ (W.alloc (.cells #[.slice A a.length ca, .slice B b.length cb] 34)).heap.size ≤ g ∧ Below (W.alloc (.cells #[.slice A a.length ca, .slice B b.length cb] 34)).heap.size (W.alloc (.cells #[.slice A a.length ca, .slice B b.length cb] 34)) w') by
      have := short_any k K ck (p2 a b A B ca cb) (some ⟨W.heap.size, 0, none⟩) 2 _ (h.handed ca cb HT.out HLK.out HLA.out)
      rw [joined_p2, ← HD.out, ← HM.out] at this
      exact this)
    have KB := hid (fun (W : World) (h : LmA w k a b K A B W) => block_any k K ck W h.rk (by have := HLK.out; omega) (HT.out.below h.below))
    have KBR := hid (fun (W : World) (h : LmA w k a b K A B W) => blockR_any k K ck W h.rk (by have := HLK.out; omega) (HR.out.below h.below) (Tab.below (x := IV.a) (xs := [IV.b, IV.c, IV.d, IV.e, IV.f, IV.g, IV.h]) HI.out h.below))
    have KMR := hid (fun (W : World) (D : Option Addr) (cd : Nat) (h : LmA w k a b K A B W) (hD : Rb W W.heap.size D d) => macR_any k d K D ck cd W h.rk hD (by have := HLK.out; omega) (by have := HDL.out; omega) (HR.out.below h.below) (Tab.below (x := IV.a) (xs := [IV.b, IV.c, IV.d, IV.e, IV.f, IV.g, IV.h]) HI.out h.below))
    rw [← hm] at KMR
    rw [← hc] at KB KBR
    have HS := hid (show (Tryd.prog.info? 36).map (·.size) = some (ubs m).toArray.size by rw [sizeH]; simp [ubs_length, HML.out])
    have HZ := hid (show (Tryd.prog.info? 38).map (·.size) = some (ubs c).toArray.size by rw [sizeB64']; simp [ubs_length, HCL.out])
    obtain ⟨x, hx⟩ : ∃ x, x = k.length := ⟨_, rfl⟩
    obtain ⟨y, hy⟩ : ∃ x, x = a.length := ⟨_, rfl⟩
    obtain ⟨z, hz⟩ : ∃ x, x = b.length := ⟨_, rfl⟩
    obtain ⟨dl, hdl⟩ : ∃ x, x = d.length := ⟨_, rfl⟩
    have HX := hid hx
    have HY := hid hy
    have HZ2 := hid hz
    have hsum := hid (show d.length = y + z by rw [hd, List.length_append, hy, hz])
    rw [← hx] at KM KS KB KBR KMR lk hbig ⊢
    rw [← hy] at KM KS la hbig ⊢
    rw [← hz] at KM KS lb hbig ⊢
    rw [hsum.out] at KMR
    have hz32 := noughts32
    have hz64 := noughts64
    clear hm hc hd hx hy hz hdl
    go_enter Tryd.func4, Tryd.ntmps4
    go_wp2_with (first
      | (go_at_call 13; refine (alive3_any _ HT.out).mono ?_; rintro e w1 ⟨rfl, hb1⟩; have L1 := hid (L0.out.next hb1); clear hb1; have L1a := hid (L1.out.next ((Below.refl _ _).alloc (Nat.le_refl _) (.cells #[] 5))))
      | (at_builtin; refine wpList_append_rd rfl (.tmp 21) (.tmp 22) _ rfl w1.heap.size 5 i0 (.int .u8 0) 1 Tryd.underlying34 hi hz0 hz1 hz2 rfl (.slice (some ⟨w1.heap.size, 0, none⟩) 0 0) 0 (ubs []) rfl (HO.out w1).own _ A y ca (ubs a) rfl (by rw [ubs_length, HY.out]) L1a.out.ra (ubs_one _) (by unfold maxLen; omega) (by omega) (by simp) ?_; intro v2 w2 hown hgr _; replace hown := hid ((HO.out w1).more hown HY.out hgr); clear hgr; rw [List.nil_append, Nat.zero_add] at hown; obtain ⟨A1, c1, rfl, -⟩ := own_form hown.out.own; have RB2 := hid ((L1.out.rb.below hown.out.below).mono hown.out.below.size))
      | (at_builtin; refine wpList_append_rd rfl (.tmp 23) (.tmp 24) _ rfl w1.heap.size 5 i0 (.int .u8 0) 1 Tryd.underlying34 hi hz0 hz1 hz2 rfl (.slice A1 y c1) y (ubs a) rfl hown.out.own _ B z cb (ubs b) rfl (by rw [ubs_length, HZ2.out]) RB2.out (ubs_one _) (by unfold maxLen; omega) (by omega) hown.out.below.size ?_; intro v3 w3 hown3 hgr3 _; replace hown3 := hid (hown.out.more hown3 HZ2.out hgr3); clear hgr3; rw [← HD.out] at hown3; obtain ⟨A3, c3, rfl, -⟩ := own_form hown3.out.own; have L3 := hid (L1.out.next hown3.out.below); have R3 := hid (Rd.of_own hown3.out.own))
      | (go_at_call 14; refine (KMR.out w3 A3 c3 L3.out R3.out).mono ?_; rintro e w4 ⟨rfl, hb4⟩; have L4 := hid (L3.out.next hb4); clear hb4)
      | (refine wpList_store_row rfl _ (.tmp 7) (.tmp 26) rfl w4.heap.size (ubs m).toArray rfl rfl 36 (ubs n32).toArray (heap_alloc_new _ _) HS.out ?e3 (ubs_all _) ?e4; rotate_right; have L5 := hid (LmA.start L4.out m); generalize ((w4.alloc (.cells (ubs n32).toArray 36)).setRow w4.heap.size (ubs m).toArray) = w5 at L5 ⊢)
      | (go_at_call 15; refine (KB.out w5 L5.out.la).mono ?_; rintro e w6 ⟨rfl, hb6⟩; have L6 := hid (L5.out.next hb6); clear hb6)
      | (refine wpList_store_row rfl _ (.tmp 8) (.tmp 28) rfl w6.heap.size (ubs c).toArray rfl rfl 38 (ubs n64).toArray (heap_alloc_new _ _) HZ.out ?e5 (ubs_all _) ?e6; rotate_right; have L7 := hid (LmB.start L6.out c); generalize ((w6.alloc (.cells (ubs n64).toArray 38)).setRow w6.heap.size (ubs c).toArray) = w7 at L7 ⊢))
    case e3 => simp [ubs_length, n32_length, HML.out]
    case e5 => simp [ubs_length, n64_length, HCL.out]
    clear L6 L5 L4 L3 R3 hown3 hown RB2 L1a L1 L0
    have L7d := hid (show LmC w k a b K A B m w4.heap.size c w6.heap.size w7.drew from L7.out.drew)
    clear L7
    refine wp_region_upto (LmC w k a b K A B m w4.heap.size c w6.heap.size) 22 23 (by kernel_rfl) (by kernel_rfl) ?_
    generalize w7.drew = V0 at L7d ⊢
    refine wpUpto_take (i := 0) (v := .slice K x ck) rfl (by kernel_rfl) (by kernel_rfl) (by kernel_rfl) (by kernel_rfl) (by decide) (fun _ _ _ h => h) (Or.inl ⟨by rfl, ?_⟩) L7d.out ?_
    · (intro W hSW; go_simp)
    refine wpUpto_take (i := 1) (v := .slice A y ca) rfl (by kernel_rfl) (by kernel_rfl) (by kernel_rfl) (by kernel_rfl) (by decide) (fun _ _ _ h => h) (Or.inl ⟨by rfl, ?_⟩) L7d.out ?_
    · (intro W hSW; go_simp)
    refine wpUpto_take (i := 2) (v := .slice B z cb) rfl (by kernel_rfl) (by kernel_rfl) (by kernel_rfl) (by kernel_rfl) (by decide) (fun _ _ _ h => h) (Or.inl ⟨by rfl, ?_⟩) L7d.out ?_
    · (intro W hSW; go_simp)
    refine wpUpto_take (i := 5) (v := .agg (ubs m).toArray) rfl (by kernel_rfl) (by kernel_rfl) (by kernel_rfl) (by kernel_rfl) (by decide) (fun _ _ _ h => h) (Or.inl ⟨by rfl, ?_⟩) L7d.out ?_
    · (intro W hSW; refine run_load_row _ (.tmp 7) ?_ w4.heap.size ?_ 36 (ubs m).toArray _ hSW.lb.hsh Tryd.underlying36 rfl HS.out <;> rfl)
    try simp only [Act.put, List.setIfInBounds_toArray]
    refine wpUpto_one (i := 3) rfl (by kernel_rfl) rfl ?_
    intro Q0 hQ0
    go_simp
    have L8 := hid (L7d.out.next ((Below.refl _ _).alloc (Nat.le_refl _) (.cells #[.slice A y ca, .slice B z cb] 34)))
    refine hQ0.out _ _ (fun _ => L8.out) ?_
    clear hQ0 Q0
    try simp only [Act.put, List.setIfInBounds_toArray]
    refine wpUpto_one (i := 4) rfl (by kernel_rfl) rfl ?_
    intro Q0 hQ0
    go_simp
    go_at_call 16
    refine (KM.out V0 L7d.out.lb.la).mono ?_
    rintro e w9 ⟨rfl, hb9⟩
    have L9 := hid (L8.out.next hb9)
    clear hb9
    refine hQ0.out _ _ (fun _ => L9.out) ?_
    clear hQ0 Q0
    refine wpUpto_take (i := 6) (v := .bool true) rfl (by kernel_rfl) (by kernel_rfl) (by kernel_rfl) (by kernel_rfl) (by decide) (fun _ _ _ h => h) (Or.inl ⟨by rfl, ?_⟩) L9.out ?_
    · (intro W hSW; exact run_eql_op _ _ (.tmp 33) (.tmp 34) rfl _ _ rfl rfl guardH true W (eql_hash_same W m HML.out))
    refine wpUpto_take (i := 7) (v := .bool true) rfl (by kernel_rfl) (by kernel_rfl) (by kernel_rfl) (by kernel_rfl) (by decide) (fun _ _ _ h => h) (Or.inl ⟨by rfl, ?_⟩) L9.out ?_
    · (intro W hSW; go_simp)
    refine wpUpto_take (i := 8) (v := .slice K x ck) rfl (by kernel_rfl) (by kernel_rfl) (by kernel_rfl) (by kernel_rfl) (by decide) (fun _ _ _ h => h) (Or.inl ⟨by rfl, ?_⟩) L9.out ?_
    · (intro W hSW; go_simp)
    refine wpUpto_take (i := 9) (v := .slice A y ca) rfl (by kernel_rfl) (by kernel_rfl) (by kernel_rfl) (by kernel_rfl) (by decide) (fun _ _ _ h => h) (Or.inl ⟨by rfl, ?_⟩) L9.out ?_
    · (intro W hSW; go_simp)
    refine wpUpto_take (i := 10) (v := .slice B z cb) rfl (by kernel_rfl) (by kernel_rfl) (by kernel_rfl) (by kernel_rfl) (by decide) (fun _ _ _ h => h) (Or.inl ⟨by rfl, ?_⟩) L9.out ?_
    · (intro W hSW; go_simp)
    refine wpUpto_take (i := 13) (v := .slice (some ⟨w4.heap.size, 0, none⟩) 16 32) rfl (by kernel_rfl) (by kernel_rfl) (by kernel_rfl) (by kernel_rfl) (by decide) (fun _ _ _ h => h) (Or.inl ⟨by rfl, ?_⟩) L9.out ?_
    · (intro W hSW; go_simp)
    try simp only [Act.put, List.setIfInBounds_toArray]
    refine wpUpto_oneG (i := 11) rfl (by kernel_rfl) (by rfl) ?_
    intro Q0 hQ0
    go_simp
    have L10 := hid (L9.out.next ((Below.refl _ _).alloc (Nat.le_refl _) (.cells #[.slice A y ca, .slice B z cb] 34)))
    refine hQ0.out _ _ (fun _ => L10.out) ?_
    clear hQ0 Q0
    try simp only [Act.put, List.setIfInBounds_toArray]
    refine wpUpto_oneG (i := 12) rfl (by kernel_rfl) (by rfl) ?_
    intro Q0 hQ0
    go_simp
    go_at_call 18
    refine (KS.out w9 L9.out.lb.la).mono ?_
    rintro e w11 ⟨g, rfl, hA11, -, hb11⟩
    have L11 := hid (L10.out.next hb11)
    have A11 := hid (rb_at hA11)
    clear hb11 hA11
    refine hQ0.out _ _ (fun _ => L11.out) ?_
    clear hQ0 Q0
    try simp only [Act.put, List.setIfInBounds_toArray]
    refine wpUpto_oneG (i := 14) rfl (by kernel_rfl) (by rfl) ?_
    intro Q0 hQ0
    go_simp
    go_at_call 17
    have cq := bytes_any (m.take 16) (m.take 16) (some ⟨g, 0, none⟩) (some ⟨w4.heap.size, 0, none⟩) 16 32 w11 A11.out (rb_take (rb_at L11.out.lb.hsh) 16)
    rw [List.length_take, HML.out, beq_self_eq_true] at cq
    refine cq.mono ?_
    clear cq
    rintro e w12 ⟨rfl, rfl⟩
    refine hQ0.out _ _ (fun _ => L11.out) ?_
    clear hQ0 Q0
    refine wpUpto_take (i := 15) (v := .bool true) rfl (by kernel_rfl) (by kernel_rfl) (by kernel_rfl) (by kernel_rfl) (by decide) (fun _ _ _ h => h) (Or.inl ⟨by rfl, ?_⟩) L11.out ?_
    · (intro W hSW; go_simp)
    refine wpUpto_take (i := 16) (v := .bool true) rfl (by kernel_rfl) (by kernel_rfl) (by kernel_rfl) (by kernel_rfl) (by decide) (fun _ _ _ h => h) (Or.inl ⟨by rfl, ?_⟩) L11.out ?_
    · (intro W hSW; go_simp)
    refine wpUpto_take (i := 17) (v := .slice (some ⟨w6.heap.size, 0, none⟩) 64 64) rfl (by kernel_rfl) (by kernel_rfl) (by kernel_rfl) (by kernel_rfl) (by decide) (fun _ _ _ h => h) (Or.inl ⟨by rfl, ?_⟩) L11.out ?_
    · (intro W hSW; go_simp)
    refine wpUpto_take (i := 18) (v := .slice K x ck) rfl (by kernel_rfl) (by kernel_rfl) (by kernel_rfl) (by kernel_rfl) (by decide) (fun _ _ _ h => h) (Or.inl ⟨by rfl, ?_⟩) L11.out ?_
    · (intro W hSW; go_simp)
    try simp only [Act.put, List.setIfInBounds_toArray]
    refine wpUpto_oneG (i := 19) rfl (by kernel_rfl) (by rfl) ?_
    intro Q0 hQ0
    go_simp
    go_at_call 19
    refine (KBR.out w11 L11.out.lb.la).mono ?_
    rintro e w13 ⟨v, rfl, hO⟩
    obtain ⟨A13, c13, rfl, -⟩ := own_form hO.own
    have L13 := hid (L11.out.next hO.below)
    have R13 := hid (Rd.of_own hO.own)
    clear hO
    refine hQ0.out _ _ (fun _ => L13.out) ?_
    clear hQ0 Q0
    try simp only [Act.put, List.setIfInBounds_toArray]
    refine wpUpto_oneG (i := 20) rfl (by kernel_rfl) (by rfl) ?_
    intro Q0 hQ0
    go_simp
    go_at_call 17
    have cq := bytes_any c c (some ⟨w6.heap.size, 0, none⟩) A13 64 c13 w13 (rb_at L13.out.blk) R13.out
    rw [HCL.out, beq_self_eq_true] at cq
    refine cq.mono ?_
    clear cq
    rintro e w14 ⟨rfl, rfl⟩
    refine hQ0.out _ _ (fun _ => L13.out) ?_
    clear hQ0 Q0
    refine wpUpto_take (i := 21) (v := .bool true) rfl (by kernel_rfl) (by kernel_rfl) (by kernel_rfl) (by kernel_rfl) (by decide) (fun _ _ _ h => h) (Or.inl ⟨by rfl, ?_⟩) L13.out ?_
    · (intro W hSW; go_simp)
    try simp only [Act.put, List.setIfInBounds_toArray]
    refine wpUpto_one (i := 22) rfl (by kernel_rfl) rfl ?_
    intro Q0 hQ0
    go_simp
    refine hQ0.out _ _ (fun h => absurd rfl h) ?_
    clear hQ0 Q0
    refine wpUpto_done (by kernel_rfl) ?_ _
    go_simp
    go_wp2
    go_ret
    exact ⟨rfl, L13.out.lb.la.below⟩
end Go.Proofs.YtobehmjmmnmflaaDoor
