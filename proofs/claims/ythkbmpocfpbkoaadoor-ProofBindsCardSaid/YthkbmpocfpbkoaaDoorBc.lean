/-
  Layer 10: Collide, of texts of which two unlike ones have one hash.
-/
import Derived.Test.YthkbmpocfpbkoaaDoorRk
import Derived.Test.YthkbmpocfpbkoaaDoorRr
namespace Go.Proofs.YthkbmpocfpbkoaaDoor
open Go.RowKit

/-- What holds while Collide goes on. -/
structure CoW (w : World) (ts : List (List UInt8)) (b j : Nat) (V : World) : Prop where
  m : ∃ f, Smap V b j f ∧ ∀ i (hi : i < ts.length), i < j → f (hashL ts[i]) = some ts[i]
  below : Below w.heap.size w V
theorem co_next {w V V' : World} {ts : List (List UInt8)} {b j : Nat} {f : List UInt8 → Option (List UInt8)} {u : List UInt8} (hj : j < ts.length) (hu : u = ts[j]) (hfi : ∀ i (hi : i < ts.length), i < j → f (hashL ts[i]) = some ts[i]) (hf : ∀ s, f (hashL u) = some s → s = u)
    (hm : Smap V' b (j + 1) (fun x => if x = hashL u then some u else f x)) (hb : Below w.heap.size w V) (hg : V.grownBy V' (some b)) (hbe : w.heap.size ≤ b) : CoW w ts b (j + 1) V' := by
  refine ⟨⟨_, hm, fun i hi hij => ?_⟩, hb.grown hg hb.size (fun k hk => by have : b = k := (by simpa using hk); omega)⟩
  show (if hashL ts[i] = hashL u then some u else f (hashL ts[i])) = some ts[i]
  by_cases e : i = j
  · subst e
    rw [← hu, if_pos rfl]
  · have h1 := hfi i hi (by omega)
    by_cases e2 : hashL ts[i] = hashL u
    · rw [if_pos e2]
      rw [e2] at h1
      rw [hf _ h1]
    · rw [if_neg e2, h1]
set_option maxRecDepth 100000 in
set_option maxHeartbeats 4000000 in
theorem collide_yes (ts : List (List UInt8)) (A : Option Addr) (c : Nat) (w : World) (ht : Trd w A ts) (hl : ∀ t ∈ ts, t.length ≤ 1000) (hn : ts.length ≤ 8589934592) (hT : Tabs w) (hC : ∃ a ∈ ts, ∃ b ∈ ts, a ≠ b ∧ hashL a = hashL b) :
    Calls Tryd.prog 55 #[.slice A ts.length c] w fun r w' => r = .returned (.bool true) ∧ Below w.heap.size w w' := by
  obtain ⟨N, hN⟩ : ∃ n, n = ts.length := ⟨_, rfl⟩
  have HN := hid hN
  have HNB := hid (show N ≤ 8589934592 by omega)
  have HC := hid hC
  have HTL := hid hl
  have HTR := hid (fun (V : World) (b : Below w.heap.size w V) => ht.new b)
  have HSU := hid (fun (V : World) (b : Below w.heap.size w V) (t : List UInt8) (A : Option Addr) (c : Nat) (hm : t ∈ ts) (h : Rb V V.heap.size A t) => sum_any t A c V h (by have := hl t hm; omega) (hT.below b))
  obtain ⟨m, hm⟩ : ∃ m, m = n32 := ⟨_, rfl⟩
  have HAH := hid (fun (o : Oper) (a : Go.Act) (W : World) (h : o.op = .alloc 35) => run_alloc_of (o := o) (a := a) (W := W) _ h _ zeroH8)
  have HNL := hid (show m.length = 32 by rw [hm]; exact n32_length)
  rw [← hm] at HAH
  rw [← hN]
  have Y0 := hid (show CoW w ts w.heap.size 0 (w.alloc (.map #[] 0)) from ⟨⟨_, Smap.made w, fun i hi hj => by omega⟩, (Below.refl _ _).alloc (Nat.le_refl _) _⟩)
  obtain ⟨b, hb⟩ : ∃ b, b = w.heap.size := ⟨_, rfl⟩
  have HBE := hid (show w.heap.size ≤ b from Nat.le_of_eq hb.symm)
  have HBB := hid hb.symm
  clear ht hl hn hT hC hN hm hb
  go_enter Tryd.func55, Tryd.ntmps55
  go_wp2_with (first
    | (refine wpList_valW (by rfl) (run_mkSmap rfl) ?_))
  have Y1 := hid (show CoW w ts b 0 (w.alloc (.map #[] 0)) by rw [← HBB.out]; exact Y0.out)
  rw [HBB.out]
  clear Y0
  generalize (w.alloc (.map #[] 0)) = w1 at Y1 ⊢
  go_loopw [5, 6, 7, 8, 12] (fun _ _ _ _ v12 wr => ∃ j : Nat, j ≤ N ∧ v12 = .int .i64 (j : Int) ∧ Hid (CoW w ts b j wr)) (fun _ _ _ _ v12 _ => N - (intOf v12).toNat)
  case atStart => exact ⟨0, by omega, rfl, Y1⟩
  case round =>
    obtain ⟨j, hj, rfl, Y⟩ := hrel
    clear Y1
    by_cases hlt : j < N
    · have d1 : decide ((j : Int) < (N : Int)) = true := by simp; omega
      have d1n : decide (j < N) = true := by simp; omega
      have ik : (j : Int) < (N : Int) := by omega
      have hjt : j < ts.length := by rw [← HN.out]; exact hlt
      obtain ⟨g, o, Ai, ci, rfl, c2, r2⟩ := (HTR.out wr Y.out.below).at hjt
      obtain ⟨u, hu⟩ : ∃ u, u = ts[j] := ⟨_, rfl⟩
      rw [← hu] at c2 r2
      have humem : u ∈ ts := by rw [hu]; exact List.getElem_mem _
      have HS := hid (HSU.out wr Y.out.below u Ai ci humem r2)
      have HUL := hid (HTL.out u humem)
      have HHL := hid (hashL_length u)
      have HR2 := hid r2
      obtain ⟨f, fm, fi⟩ := Y.out.m
      have HFM := hid fm
      have HCV := hid (fun (V : World) (q : Below wr.heap.size wr V) => run_convert_rb (P := Tryd.prog) 89 9 5 Tryd.underlying89 Tryd.underlying5 Tryd.underlying9 (show Rb V V.heap.size Ai u from (Rd.below r2 q).mono q.size) ci)
      have HNX := hid (fun (hf : ∀ s, f (hashL u) = some s → s = u) (V V' : World) (hm : Smap V' b (j + 1) (fun x => if x = hashL u then some u else f x)) (hbw : Below w.heap.size w V) (hg : V.grownBy V' (some b)) => co_next hjt hu fi hf hm hbw hg HBE.out)
      obtain ⟨un, hun⟩ : ∃ n, n = u.length := ⟨_, rfl⟩
      rw [← hun] at c2 HS HCV
      obtain ⟨q1, hq1⟩ : ∃ q, q = o + j := ⟨_, rfl⟩
      rw [← hq1] at c2
      have ep := hq1.symm
      obtain ⟨j1, hj1⟩ : ∃ m, m = j + 1 := ⟨_, rfl⟩
      rw [← hj1] at HNX
      have HJ1 := hid hj1
      have e2 : (j : Int) + 1 = (j1 : Int) := by omega
      have ew : IntKind.i64.wrap (j1 : Int) = (j1 : Int) := by rw [IntKind.wrap_i64] <;> have := HNB.out <;> omega
      have HM := hid (show j1 ≤ N ∧ N - j1 < N - j ∧ j < 9223372036854775807 by have := HNB.out; omega)
      cases hf : f (hashL u) with
      | none =>
        have HFN := hid (show f (hashL u) = none from hf)
        have HNF := hid (fun s (h : f (hashL u) = some s) => show s = u from by rw [hf] at h; cases h)
        clear hu humem r2 fm fi hun hq1 hj1 hlt hjt hf hj HSU HTR HC HTL
        go_wp2_with (first
          | (go_at_call 85; refine HS.out.mono ?_; rintro r2x w2 ⟨rfl, hb2⟩; have B2 := hid hb2; clear hb2)
          | (refine Great.wpList_allocTo rfl _ rfl _ _ (HAH.out _ _ _ rfl) ?_)
          | (refine wpList_store_row rfl _ (.tmp 6) (.tmp 17) rfl w2.heap.size (ubs (hashL u)).toArray rfl rfl 35 (ubs m).toArray (At.new _ _ _) (sizeH_of HHL.out) (by simp [ubs_length, HNL.out, HHL.out]) (ubs_all _) ?_; have hb3 : Below w2.heap.size w2 ((w2.alloc (.cells (ubs m).toArray 35)).setRow w2.heap.size (ubs (hashL u)).toArray) := below_setRow ((Below.refl _ _).alloc (Nat.le_refl _) _) (Nat.le_refl _) _; have B3 := hid (B2.out.trans (hb3.mono B2.out.size)); have G3 := hid (show At ((w2.alloc (.cells (ubs m).toArray 35)).setRow w2.heap.size (ubs (hashL u)).toArray) w2.heap.size (ubs (hashL u)).toArray 35 from setRow_heap _ _ _ _ _ _ (At.new w2 (ubs m).toArray 35)); clear hb3; generalize ((w2.alloc (.cells (ubs m).toArray 35)).setRow w2.heap.size (ubs (hashL u)).toArray) = w3 at B3 G3 ⊢; generalize w2.heap.size = G at G3 ⊢; have k3 := HCV.out w3 B3.out; have M3 := hid (HFM.out.new B3.out); have W3 := hid (Y.out.below.trans (B3.out.mono Y.out.below.size)))
          | (refine wpList_valW (by rfl) (run_loadH (.tmp 6) rfl G 0 rfl (hashL u) (range_whole G3.out) HHL.out) ?_)
          | (refine wpList_smap_look rfl (.tmp 19) (.tmp 20) rfl rfl M3.out (hashL u) rfl HHL.out ?_; rw [HFN.out])
          | (refine wpList_smap_put rfl (.tmp 31) (.tmp 32) (.tmp 34) rfl rfl M3.out (by unfold maxLen; have := HM.out; omega) (hashL u) u rfl rfl HHL.out (by unfold maxLen; have := HUL.out; omega) ?_; intro w4 hm4 hg4; rw [← HJ1.out] at hm4; have Y4 := hid (HNX.out HNF.out _ _ hm4 W3.out hg4); clear hm4 hg4))
        exact ⟨⟨j1, HM.out.1, rfl, Y4⟩, by
          show N - ((j1 : Int)).toNat < N - ((j : Int)).toNat
          rw [Int.toNat_natCast, Int.toNat_natCast]
          exact HM.out.2.1⟩
      | some s =>
        have HFS := hid (show f (hashL u) = some s from hf)
        by_cases hsu : s = u
        · subst hsu
          have HSE := hid (str_eq s s)
          have HNF := hid (fun t (h : f (hashL s) = some t) => show t = s from by rw [hf] at h; exact (Option.some.inj h).symm)
          clear hu humem r2 fm fi hun hq1 hj1 hlt hjt hf hj HSU HTR HC HTL
          go_wp2_with (first
            | (go_at_call 85; refine HS.out.mono ?_; rintro r2x w2 ⟨rfl, hb2⟩; have B2 := hid hb2; clear hb2)
            | (refine Great.wpList_allocTo rfl _ rfl _ _ (HAH.out _ _ _ rfl) ?_)
            | (refine wpList_store_row rfl _ (.tmp 6) (.tmp 17) rfl w2.heap.size (ubs (hashL s)).toArray rfl rfl 35 (ubs m).toArray (At.new _ _ _) (sizeH_of HHL.out) (by simp [ubs_length, HNL.out, HHL.out]) (ubs_all _) ?_; have hb3 : Below w2.heap.size w2 ((w2.alloc (.cells (ubs m).toArray 35)).setRow w2.heap.size (ubs (hashL s)).toArray) := below_setRow ((Below.refl _ _).alloc (Nat.le_refl _) _) (Nat.le_refl _) _; have B3 := hid (B2.out.trans (hb3.mono B2.out.size)); have G3 := hid (show At ((w2.alloc (.cells (ubs m).toArray 35)).setRow w2.heap.size (ubs (hashL s)).toArray) w2.heap.size (ubs (hashL s)).toArray 35 from setRow_heap _ _ _ _ _ _ (At.new w2 (ubs m).toArray 35)); clear hb3; generalize ((w2.alloc (.cells (ubs m).toArray 35)).setRow w2.heap.size (ubs (hashL s)).toArray) = w3 at B3 G3 ⊢; generalize w2.heap.size = G at G3 ⊢; have k3 := HCV.out w3 B3.out; have M3 := hid (HFM.out.new B3.out); have W3 := hid (Y.out.below.trans (B3.out.mono Y.out.below.size)))
            | (refine wpList_valW (by rfl) (run_loadH (.tmp 6) rfl G 0 rfl (hashL s) (range_whole G3.out) HHL.out) ?_)
            | (refine wpList_smap_look rfl (.tmp 19) (.tmp 20) rfl rfl M3.out (hashL s) rfl HHL.out ?_; rw [HFS.out])
            | (refine wpList_smap_put rfl (.tmp 31) (.tmp 32) (.tmp 34) rfl rfl M3.out (by unfold maxLen; have := HM.out; omega) (hashL s) s rfl rfl HHL.out (by unfold maxLen; have := HUL.out; omega) ?_; intro w4 hm4 hg4; rw [← HJ1.out] at hm4; have Y4 := hid (HNX.out HNF.out _ _ hm4 W3.out hg4); clear hm4 hg4))
          exact ⟨⟨j1, HM.out.1, rfl, Y4⟩, by
            show N - ((j1 : Int)).toNat < N - ((j : Int)).toNat
            rw [Int.toNat_natCast, Int.toNat_natCast]
            exact HM.out.2.1⟩
        · have HSE := hid (str_eq s u)
          have hsb : (s == u) = false := by simpa using hsu
          clear hu humem r2 fm fi hun hq1 hj1 hlt hjt hf hj HSU HTR HC HTL
          go_wp2_with (first
            | (go_at_call 85; refine HS.out.mono ?_; rintro r2x w2 ⟨rfl, hb2⟩; have B2 := hid hb2; clear hb2)
            | (refine Great.wpList_allocTo rfl _ rfl _ _ (HAH.out _ _ _ rfl) ?_)
            | (refine wpList_store_row rfl _ (.tmp 6) (.tmp 17) rfl w2.heap.size (ubs (hashL u)).toArray rfl rfl 35 (ubs m).toArray (At.new _ _ _) (sizeH_of HHL.out) (by simp [ubs_length, HNL.out, HHL.out]) (ubs_all _) ?_; have hb3 : Below w2.heap.size w2 ((w2.alloc (.cells (ubs m).toArray 35)).setRow w2.heap.size (ubs (hashL u)).toArray) := below_setRow ((Below.refl _ _).alloc (Nat.le_refl _) _) (Nat.le_refl _) _; have B3 := hid (B2.out.trans (hb3.mono B2.out.size)); have G3 := hid (show At ((w2.alloc (.cells (ubs m).toArray 35)).setRow w2.heap.size (ubs (hashL u)).toArray) w2.heap.size (ubs (hashL u)).toArray 35 from setRow_heap _ _ _ _ _ _ (At.new w2 (ubs m).toArray 35)); clear hb3; generalize ((w2.alloc (.cells (ubs m).toArray 35)).setRow w2.heap.size (ubs (hashL u)).toArray) = w3 at B3 G3 ⊢; generalize w2.heap.size = G at G3 ⊢; have k3 := HCV.out w3 B3.out; have M3 := hid (HFM.out.new B3.out); have W3 := hid (Y.out.below.trans (B3.out.mono Y.out.below.size)))
            | (refine wpList_valW (by rfl) (run_loadH (.tmp 6) rfl G 0 rfl (hashL u) (range_whole G3.out) HHL.out) ?_)
            | (refine wpList_smap_look rfl (.tmp 19) (.tmp 20) rfl rfl M3.out (hashL u) rfl HHL.out ?_; rw [HFS.out]))
          go_ret
          exact ⟨rfl, W3.out⟩
    · obtain rfl : j = N := by omega
      exfalso
      obtain ⟨f, fm, fi⟩ := Y.out.m
      obtain ⟨a, ha, b', hb', hne, he⟩ := HC.out
      obtain ⟨i, hi, rfl⟩ := List.getElem_of_mem ha
      obtain ⟨i', hi', rfl⟩ := List.getElem_of_mem hb'
      have h1 := fi i hi (by rw [HN.out]; exact hi)
      have h2 := fi i' hi' (by rw [HN.out]; exact hi')
      rw [he, h2] at h1
      exact hne (Option.some.inj h1).symm
end Go.Proofs.YthkbmpocfpbkoaaDoor
