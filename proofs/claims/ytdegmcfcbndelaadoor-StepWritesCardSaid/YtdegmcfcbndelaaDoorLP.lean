/-
  Layer 12: StepWrites, one of its ways.
  Layer 12: StepWrites, one of its ways.
  Layer 12: StepWrites, one of its ways.
-/
import Derived.Test.YtdegmcfcbndelaaDoorL6
namespace Go.Proofs.YtdegmcfcbndelaaDoor
open Go.RowKit

set_option maxRecDepth 100000 in
set_option maxHeartbeats 4000000 in
theorem stepWrites_R {w : World} (hA : Alive12C w) (h : Int) (l : List Nat) (old bes lv rb : List UInt8) (A AO AB AL AR : Option Addr) (c no co nb cb nl cl cr : Nat) (hr : Nu w w.heap.size A l) (hc : l.length ≤ c) (hO : Rd w w.heap.size AO (ubs old)) (hB : Rd w w.heap.size AB (ubs bes)) (hL : Rd w w.heap.size AL (ubs lv)) (hco : no ≤ co) (hcb : nb ≤ cb) (hcl : nl ≤ cl) (hold : old.length = 32 * no) (hbes : bes.length = 32 * nb) (hlv : lv.length = 32 * nl) (hT : Tabs w) (hR : Tabr w) (hI : Tab w 1 IV.l) (hg : largeB l.length no nb = false) (hn : nl ≤ 300) (hrb : rb.length = 32 * 1) (hrr : Rd w w.heap.size AR (ubs rb)) :
    Calls Tryd.prog 7 #[.int .i64 h, .agg #[.slice A l.length c, .slice AO no co, .slice AB nb cb], .agg #[.slice AL nl cl, .slice AR 1 cr]] w fun r w' => r = .returned (.bool true) ∧ Below w.heap.size w w' := by
  obtain ⟨f, hfe⟩ : ∃ f, f = (hpart rb 0) := ⟨_, rfl⟩
  have HRL := hid (show f.length = 32 by rw [hfe]; exact hpart_length (n := 1) hrb (by omega))
  obtain ⟨g, q, rfl, hgb, hra⟩ := hpart_range hrr hrb (show 0 < 1 by omega)
  rw [Nat.mul_zero, Nat.add_zero, ← hfe] at hra
  have HRA := hid hra
  have HGB := hid hgb
  have HLG := hid (fun V => large_any l.length no nb A AO AB c co cb V)
  rw [hg] at HLG
  have HAF := hid (fun (V : World) (k : Below w.heap.size w V) => pwriteAfter_any f HRL.out h l old bes lv A AO AB AL c no co nb cb nl cl V (hr.new k) hc ((hO.below k).mono k.size) ((hB.below k).mono k.size) ((hL.below k).mono k.size) hco hcb hcl hold hbes hlv (hT.below k))
  have HRW := hid (fun (V : World) (k : Below w.heap.size w V) => writeR12_any f HRL.out h l old bes lv A AO AB AL c no co nb cb nl cl V (hr.new k) ((hO.below k).mono k.size) ((hB.below k).mono k.size) ((hL.below k).mono k.size) hold hbes hlv (hR.below k) (Tab.below (x := IV.a) (xs := [IV.b, IV.c, IV.d, IV.e, IV.f, IV.g, IV.h]) hI k))
  have HYL := hid (wrE_length (q := f) (h := h) (l := l) (no := no) (old := old) hlv hbes)
  generalize wrE f h l no nb nl old bes lv = y at HAF HRW HYL
  generalize wrN f h l no nb nl old bes = ky at HAF HRW
  clear hr hc hO hB hL hco hcb hcl hold hbes hlv hT hR hI hg hrb hrr hra hgb hfe
  generalize l.length = n at HLG HAF HRW ⊢
  obtain ⟨C, hC⟩ : ∃ C : List Value, C = [.slice A n c, .slice AO no co, .slice AB nb cb] := ⟨_, rfl⟩
  obtain ⟨S, hS⟩ : ∃ S : List Value, S = [.slice AL nl cl, .slice (some ⟨g, q, none⟩) 1 cr] := ⟨_, rfl⟩
  rw [show (#[.slice A n c, .slice AO no co, .slice AB nb cb] : Array Value) = C.toArray by rw [hC]] at HAF ⊢
  rw [show (#[.slice AL nl cl, .slice (some ⟨g, q, none⟩) 1 cr] : Array Value) = S.toArray by rw [hS]]
  have K0 := hid (SwW.start (W := w) (C := C) (S := S))
  have HSC := hid (show C.length = 3 by rw [hC]; rfl)
  have HO0 := hid (fun (V : World) (k : SwW w C S V) => show V.cell? ⟨w.heap.size, 0, none⟩ = some (.slice A n c) ∧ V.cell? ⟨w.heap.size, 1, none⟩ = some (.slice AO no co) ∧ V.cell? ⟨w.heap.size, 2, none⟩ = some (.slice AB nb cb) ∧ V.cell? ⟨w.heap.size + 1, 0, none⟩ = some (.slice AL nl cl) ∧ V.cell? ⟨w.heap.size + 1, 1, none⟩ = some (.slice (some ⟨g, q, none⟩) 1 cr) from by
    rw [k.at, k.at, k.at, k.in, k.in, hC, hS]
    exact ⟨rfl, rfl, rfl, rfl, rfl⟩)
  have HAL := hid (fun (V : World) (b : Below w.heap.size w V) => hA V b)
  have HAH := hid (fun (o : Oper) (a : Go.Act) (W : World) (h : o.op = .alloc 25) => run_alloc_of (o := o) (a := a) (W := W) _ h _ zeroH8)
  have HNL := hid n32_length
  have HNUM := hid (fun (k : Nat) V => enum_any k V)
  have H3L := hid h3_length
  have d1 : decide (300 < (nl : Int)) = false := by simp; omega
  have d1n : decide (300 < nl) = false := by simp; omega
  clear hC hS hA hn
  go_enter Tryd.func7, Tryd.ntmps7
  go_upto_region 3 with (first
    | (generalize ((w.alloc (.cells C.toArray 72)).alloc (.cells S.toArray 73)) = w0 at K0 ⊢; go_at_call 40; refine (HAL.out w0 K0.out.bl).mono ?_; rintro r1 w1 ⟨rfl, hb1⟩; have K1 := hid (K0.out.new hb1); clear hb1; obtain ⟨s0, s1, s2, s3, s4⟩ := HO0.out _ K1.out))
  go_upto_region 5 with (first
    | (go_at_call 27; refine (HLG.out _).mono ?_; rintro rl wl ⟨rfl, hwl⟩; rw [hwl]; clear hwl))
  go_upto_region 6 with (first
    | (refine wpList_valW (by rfl) (run_build_h3 rfl) ?_)
    | (refine Great.wpList_allocTo rfl _ rfl _ _ (HAH.out _ _ _ rfl) ?_)
    | (refine wpList_store_row rfl _ (.tmp 7) (.tmp 36) rfl w1.heap.size (ubs h3).toArray rfl rfl 25 (ubs n32).toArray (At.new _ _ _) (sizeH_of H3L.out) (by simp [ubs_length, HNL.out, H3L.out]) (ubs_all _) ?_; have Bx := hid (show Below w1.heap.size w1 ((w1.alloc (.cells (ubs n32).toArray 25)).setRow w1.heap.size (ubs h3).toArray) from below_setRow ((Below.refl _ _).alloc (Nat.le_refl _) _) (Nat.le_refl _) _); have X2 := hid (show At ((w1.alloc (.cells (ubs n32).toArray 25)).setRow w1.heap.size (ubs h3).toArray) w1.heap.size (ubs h3).toArray 25 from setRow_heap _ _ _ _ _ _ (At.new w1 (ubs n32).toArray 25)); have K2 := hid (K1.out.new Bx.out); have LX2 := hid (K1.out.far); clear Bx s0 s1 s2 s3 s4; generalize ((w1.alloc (.cells (ubs n32).toArray 25)).setRow w1.heap.size (ubs h3).toArray) = w2 at X2 K2 ⊢; generalize w1.heap.size = G at X2 LX2 ⊢; obtain ⟨s0, s1, s2, s3, s4⟩ := HO0.out _ K2.out))
  go_upto_region 11 with (first
    | (refine wpList_valW (by rfl) (run_loadH (.tmp 43) rfl g q rfl f (range_new K2.out.bl HGB.out HRA.out) HRL.out) ?_)
    | (refine wpList_store_row rfl _ (.tmp 7) (.tmp 44) rfl G (ubs f).toArray rfl rfl 25 (ubs h3).toArray X2.out (sizeH_of HRL.out) (by simp [ubs_length, H3L.out, HRL.out]) (ubs_all _) ?_; have K4 := hid (K2.out.put LX2.out (ubs f).toArray); have X4 := hid (show At (w2.setRow G (ubs f).toArray) G (ubs f).toArray 25 from setRow_heap _ _ _ _ _ _ X2.out); clear s0 s1 s2 s3 s4; generalize (w2.setRow G (ubs f).toArray) = w4 at K4 X4 ⊢; obtain ⟨s0, s1, s2, s3, s4⟩ := HO0.out _ K4.out))
  go_upto_region 12 with (first
    | (refine wpList_valW (by rfl) (run_loadW12 (.tmp 4) rfl w.heap.size rfl C K4.out.cu HSC.out) ?_)
    | (refine wpList_valW (by rfl) (run_loadH (.tmp 7) rfl G 0 rfl f (range_whole X4.out) HRL.out) ?_)
    | (go_at_call 42; refine (HAF.out w4 K4.out.bl).mono ?_; rintro r5 w5 ⟨rfl, hb5⟩; have K5 := hid (K4.out.new hb5); have X5 := hid (X4.out.new_ hb5); clear hb5 s0 s1 s2 s3 s4; obtain ⟨s0, s1, s2, s3, s4⟩ := HO0.out _ K5.out)
    | (refine Great.wpList_allocTo rfl _ rfl _ _ (HAH.out _ _ _ rfl) ?_)
    | (refine wpList_store_row rfl _ (.tmp 11) (.tmp 67) rfl w5.heap.size (ubs y).toArray rfl rfl 25 (ubs n32).toArray (At.new _ _ _) (sizeH_of HYL.out) (by simp [ubs_length, HNL.out, HYL.out]) (ubs_all _) ?_; have Bx := hid (show Below w5.heap.size w5 ((w5.alloc (.cells (ubs n32).toArray 25)).setRow w5.heap.size (ubs y).toArray) from below_setRow ((Below.refl _ _).alloc (Nat.le_refl _) _) (Nat.le_refl _) _); have Y6 := hid (show At ((w5.alloc (.cells (ubs n32).toArray 25)).setRow w5.heap.size (ubs y).toArray) w5.heap.size (ubs y).toArray 25 from setRow_heap _ _ _ _ _ _ (At.new w5 (ubs n32).toArray 25)); have K6 := hid (K5.out.new Bx.out); have LY6 := hid (K5.out.far); have X6 := hid (X5.out.new_ Bx.out); clear Bx s0 s1 s2 s3 s4; generalize ((w5.alloc (.cells (ubs n32).toArray 25)).setRow w5.heap.size (ubs y).toArray) = w6 at Y6 K6 X6 ⊢; generalize w5.heap.size = G8 at Y6 LY6 ⊢; obtain ⟨s0, s1, s2, s3, s4⟩ := HO0.out _ K6.out))
  go_upto_region 13 with (first
    | (refine wpList_valW (by rfl) (run_loadH (.tmp 7) rfl G 0 rfl f (range_whole X6.out) HRL.out) ?_)
    | (go_at_call 43; refine (HRW.out w6 K6.out.bl).mono ?_; rintro r7 w7 ⟨rfl, hb7⟩; have K7 := hid (K6.out.new hb7); have Y7 := hid (Y6.out.new_ hb7); clear hb7 s0 s1 s2 s3 s4; obtain ⟨s0, s1, s2, s3, s4⟩ := HO0.out _ K7.out)
    | (refine Great.wpList_allocTo rfl _ rfl _ _ (HAH.out _ _ _ rfl) ?_)
    | (refine wpList_store_row rfl _ (.tmp 13) (.tmp 81) rfl w7.heap.size (ubs y).toArray rfl rfl 25 (ubs n32).toArray (At.new _ _ _) (sizeH_of HYL.out) (by simp [ubs_length, HNL.out, HYL.out]) (ubs_all _) ?_; have Bx := hid (show Below w7.heap.size w7 ((w7.alloc (.cells (ubs n32).toArray 25)).setRow w7.heap.size (ubs y).toArray) from below_setRow ((Below.refl _ _).alloc (Nat.le_refl _) _) (Nat.le_refl _) _); have Z8 := hid (show At ((w7.alloc (.cells (ubs n32).toArray 25)).setRow w7.heap.size (ubs y).toArray) w7.heap.size (ubs y).toArray 25 from setRow_heap _ _ _ _ _ _ (At.new w7 (ubs n32).toArray 25)); have K8 := hid (K7.out.new Bx.out); have LZ8 := hid (K7.out.far); have Y8 := hid (Y7.out.new_ Bx.out); clear Bx s0 s1 s2 s3 s4; generalize ((w7.alloc (.cells (ubs n32).toArray 25)).setRow w7.heap.size (ubs y).toArray) = w8 at Z8 K8 Y8 ⊢; generalize w7.heap.size = G10 at Z8 LZ8 ⊢; obtain ⟨s0, s1, s2, s3, s4⟩ := HO0.out _ K8.out))
  go_wp2_with (first
    | (refine wpList_valW (by rfl) (run_loadH (.tmp 11) rfl G8 0 rfl y (range_whole Y8.out) HYL.out) ?_)
    | (refine wpList_valW (by rfl) (run_loadH (.tmp 13) rfl G10 0 rfl y (range_whole Z8.out) HYL.out) ?_)
    | (refine wpList_valW (by rfl) (run_eqlH _ (.tmp 83) (.tmp 84) rfl y y HYL.out HYL.out rfl rfl true (by simp) _) ?_)
    | (go_at_call 44; refine (HNUM.out ky _).mono ?_; rintro rn wn ⟨rfl, hwn⟩; rw [← hwn]; clear hwn))
  go_ret
  exact ⟨rfl, K8.out.bl⟩
end Go.Proofs.YtdegmcfcbndelaaDoor

namespace Go.Proofs.YtdegmcfcbndelaaDoor
open Go.RowKit

set_option maxRecDepth 100000 in
set_option maxHeartbeats 4000000 in
theorem stepWrites_T {w : World} (hA : Alive12C w) (h : Int) (l : List Nat) (old bes lv : List UInt8) (A AO AB AL AR : Option Addr) (c no co nb cb nl cl cr : Nat) (hr : Nu w w.heap.size A l) (hc : l.length ≤ c) (hO : Rd w w.heap.size AO (ubs old)) (hB : Rd w w.heap.size AB (ubs bes)) (hL : Rd w w.heap.size AL (ubs lv)) (hco : no ≤ co) (hcb : nb ≤ cb) (hcl : nl ≤ cl) (hold : old.length = 32 * no) (hbes : bes.length = 32 * nb) (hlv : lv.length = 32 * nl) (hT : Tabs w) (hR : Tabr w) (hI : Tab w 1 IV.l) (hg : largeB l.length no nb = false) (hn : nl ≤ 300) (hk : ccB h l no nb = 0) :
    Calls Tryd.prog 7 #[.int .i64 h, .agg #[.slice A l.length c, .slice AO no co, .slice AB nb cb], .agg #[.slice AL nl cl, .slice AR 0 cr]] w fun r w' => r = .returned (.bool true) ∧ Below w.heap.size w w' := by
  obtain ⟨f, hfe⟩ : ∃ f, f = (rootS h l no nb old bes) := ⟨_, rfl⟩
  have HRL := hid (show f.length = 32 by rw [hfe]; exact rootS_length hold hbes)
  obtain ⟨own, hown⟩ : ∃ r, r = rootS h l no nb old bes := ⟨_, rfl⟩
  obtain ⟨kx, hkx⟩ : ∃ k, k = ccB h l no nb := ⟨_, rfl⟩
  have HOL := hid (show own.length = 32 by rw [hown]; exact rootS_length hold hbes)
  have HTX := hid (fun (V : World) (b : Below w.heap.size w V) => show Calls Tryd.prog 41 #[.int .i64 h, .slice A l.length c, .slice AO no co, .slice AB nb cb] V (fun r W' => ∃ A1 c1 N, r = .returned (.tuple #[.slice A1 N c1, .agg (ubs own).toArray, .int .i64 (kx : Int)]) ∧ Below V.heap.size V W') from by
    rw [hkx, hown]
    exact (textsR_any h l old bes A AO AB c no co nb cb V (hr.new b) ((hO.below b).mono b.size) ((hB.below b).mono b.size) hold hbes (hR.below b) (Tab.below (x := IV.a) (xs := [IV.b, IV.c, IV.d, IV.e, IV.f, IV.g, IV.h]) hI b)).mono fun r W' ⟨A1, c1, ps, h1, _, _, h4⟩ => ⟨A1, c1, ps.length, h1, h4⟩)
  rw [← hkx] at hk
  subst hk
  obtain rfl : own = f := by rw [hown, hfe]
  have HLG := hid (fun V => large_any l.length no nb A AO AB c co cb V)
  rw [hg] at HLG
  have HAF := hid (fun (V : World) (k : Below w.heap.size w V) => pwriteAfter_any own HRL.out h l old bes lv A AO AB AL c no co nb cb nl cl V (hr.new k) hc ((hO.below k).mono k.size) ((hB.below k).mono k.size) ((hL.below k).mono k.size) hco hcb hcl hold hbes hlv (hT.below k))
  have HRW := hid (fun (V : World) (k : Below w.heap.size w V) => writeR12_any own HRL.out h l old bes lv A AO AB AL c no co nb cb nl cl V (hr.new k) ((hO.below k).mono k.size) ((hB.below k).mono k.size) ((hL.below k).mono k.size) hold hbes hlv (hR.below k) (Tab.below (x := IV.a) (xs := [IV.b, IV.c, IV.d, IV.e, IV.f, IV.g, IV.h]) hI k))
  have HYL := hid (wrE_length (q := own) (h := h) (l := l) (no := no) (old := old) hlv hbes)
  generalize wrE own h l no nb nl old bes lv = y at HAF HRW HYL
  generalize wrN own h l no nb nl old bes = ky at HAF HRW
  clear hr hc hO hB hL hco hcb hcl hold hbes hlv hT hR hI hg hown hkx hfe
  generalize l.length = n at HLG HAF HRW HTX ⊢
  obtain ⟨C, hC⟩ : ∃ C : List Value, C = [.slice A n c, .slice AO no co, .slice AB nb cb] := ⟨_, rfl⟩
  obtain ⟨S, hS⟩ : ∃ S : List Value, S = [.slice AL nl cl, .slice AR 0 cr] := ⟨_, rfl⟩
  rw [show (#[.slice A n c, .slice AO no co, .slice AB nb cb] : Array Value) = C.toArray by rw [hC]] at HAF ⊢
  rw [show (#[.slice AL nl cl, .slice AR 0 cr] : Array Value) = S.toArray by rw [hS]]
  have K0 := hid (SwW.start (W := w) (C := C) (S := S))
  have HSC := hid (show C.length = 3 by rw [hC]; rfl)
  have HO0 := hid (fun (V : World) (k : SwW w C S V) => show V.cell? ⟨w.heap.size, 0, none⟩ = some (.slice A n c) ∧ V.cell? ⟨w.heap.size, 1, none⟩ = some (.slice AO no co) ∧ V.cell? ⟨w.heap.size, 2, none⟩ = some (.slice AB nb cb) ∧ V.cell? ⟨w.heap.size + 1, 0, none⟩ = some (.slice AL nl cl) ∧ V.cell? ⟨w.heap.size + 1, 1, none⟩ = some (.slice AR 0 cr) from by
    rw [k.at, k.at, k.at, k.in, k.in, hC, hS]
    exact ⟨rfl, rfl, rfl, rfl, rfl⟩)
  have HAL := hid (fun (V : World) (b : Below w.heap.size w V) => hA V b)
  have HAH := hid (fun (o : Oper) (a : Go.Act) (W : World) (h : o.op = .alloc 25) => run_alloc_of (o := o) (a := a) (W := W) _ h _ zeroH8)
  have HNL := hid n32_length
  have HNUM := hid (fun (k : Nat) V => enum_any k V)
  have H3L := hid h3_length
  have d1 : decide (300 < (nl : Int)) = false := by simp; omega
  have d1n : decide (300 < nl) = false := by simp; omega
  clear hC hS hA hn
  go_enter Tryd.func7, Tryd.ntmps7
  go_upto_region 3 with (first
    | (generalize ((w.alloc (.cells C.toArray 72)).alloc (.cells S.toArray 73)) = w0 at K0 ⊢; go_at_call 40; refine (HAL.out w0 K0.out.bl).mono ?_; rintro r1 w1 ⟨rfl, hb1⟩; have K1 := hid (K0.out.new hb1); clear hb1; obtain ⟨s0, s1, s2, s3, s4⟩ := HO0.out _ K1.out))
  go_upto_region 5 with (first
    | (go_at_call 27; refine (HLG.out _).mono ?_; rintro rl wl ⟨rfl, hwl⟩; rw [hwl]; clear hwl))
  go_upto_region 6 with (first
    | (refine wpList_valW (by rfl) (run_build_h3 rfl) ?_)
    | (refine Great.wpList_allocTo rfl _ rfl _ _ (HAH.out _ _ _ rfl) ?_)
    | (refine wpList_store_row rfl _ (.tmp 7) (.tmp 36) rfl w1.heap.size (ubs h3).toArray rfl rfl 25 (ubs n32).toArray (At.new _ _ _) (sizeH_of H3L.out) (by simp [ubs_length, HNL.out, H3L.out]) (ubs_all _) ?_; have Bx := hid (show Below w1.heap.size w1 ((w1.alloc (.cells (ubs n32).toArray 25)).setRow w1.heap.size (ubs h3).toArray) from below_setRow ((Below.refl _ _).alloc (Nat.le_refl _) _) (Nat.le_refl _) _); have X2 := hid (show At ((w1.alloc (.cells (ubs n32).toArray 25)).setRow w1.heap.size (ubs h3).toArray) w1.heap.size (ubs h3).toArray 25 from setRow_heap _ _ _ _ _ _ (At.new w1 (ubs n32).toArray 25)); have K2 := hid (K1.out.new Bx.out); have LX2 := hid (K1.out.far); clear Bx s0 s1 s2 s3 s4; generalize ((w1.alloc (.cells (ubs n32).toArray 25)).setRow w1.heap.size (ubs h3).toArray) = w2 at X2 K2 ⊢; generalize w1.heap.size = G at X2 LX2 ⊢; obtain ⟨s0, s1, s2, s3, s4⟩ := HO0.out _ K2.out))
  go_upto_region 11 with (first
    | (go_at_call 41; refine (HTX.out w2 K2.out.bl).mono ?_; rintro r3 w3 ⟨A3, c3, N3, rfl, hb3⟩; have K3 := hid (K2.out.new hb3); have X3 := hid (X2.out.new_ hb3); clear hb3 s0 s1 s2 s3 s4; obtain ⟨s0, s1, s2, s3, s4⟩ := HO0.out _ K3.out)
    | (refine Great.wpList_allocTo rfl _ rfl _ _ (HAH.out _ _ _ rfl) ?_)
    | (refine wpList_store_row rfl _ (.tmp 9) (.tmp 55) rfl w3.heap.size (ubs own).toArray rfl rfl 25 (ubs n32).toArray (At.new _ _ _) (sizeH_of HOL.out) (by simp [ubs_length, HNL.out, HOL.out]) (ubs_all _) ?_; have Bx := hid (show Below w3.heap.size w3 ((w3.alloc (.cells (ubs n32).toArray 25)).setRow w3.heap.size (ubs own).toArray) from below_setRow ((Below.refl _ _).alloc (Nat.le_refl _) _) (Nat.le_refl _) _); have Y3 := hid (show At ((w3.alloc (.cells (ubs n32).toArray 25)).setRow w3.heap.size (ubs own).toArray) w3.heap.size (ubs own).toArray 25 from setRow_heap _ _ _ _ _ _ (At.new w3 (ubs n32).toArray 25)); have K3b := hid (K3.out.new Bx.out); have LY3 := hid (K3.out.far); have X3b := hid (X3.out.new_ Bx.out); clear Bx s0 s1 s2 s3 s4; generalize ((w3.alloc (.cells (ubs n32).toArray 25)).setRow w3.heap.size (ubs own).toArray) = w3b at Y3 K3b X3b ⊢; generalize w3.heap.size = Go_ at Y3 LY3 ⊢; obtain ⟨s0, s1, s2, s3, s4⟩ := HO0.out _ K3b.out)
    | (refine wpList_valW (by rfl) (run_loadH (.tmp 9) rfl Go_ 0 rfl own (range_whole Y3.out) HOL.out) ?_)
    | (refine wpList_store_row rfl _ (.tmp 7) (.tmp 59) rfl G (ubs own).toArray rfl rfl 25 (ubs h3).toArray X3b.out (sizeH_of HOL.out) (by simp [ubs_length, H3L.out, HOL.out]) (ubs_all _) ?_; have K4 := hid (K3b.out.put LX2.out (ubs own).toArray); have X4 := hid (show At (w3b.setRow G (ubs own).toArray) G (ubs own).toArray 25 from setRow_heap _ _ _ _ _ _ X3b.out); clear s0 s1 s2 s3 s4; generalize (w3b.setRow G (ubs own).toArray) = w4 at K4 X4 ⊢; obtain ⟨s0, s1, s2, s3, s4⟩ := HO0.out _ K4.out))
  go_upto_region 12 with (first
    | (refine wpList_valW (by rfl) (run_loadW12 (.tmp 4) rfl w.heap.size rfl C K4.out.cu HSC.out) ?_)
    | (refine wpList_valW (by rfl) (run_loadH (.tmp 7) rfl G 0 rfl own (range_whole X4.out) HRL.out) ?_)
    | (go_at_call 42; refine (HAF.out w4 K4.out.bl).mono ?_; rintro r5 w5 ⟨rfl, hb5⟩; have K5 := hid (K4.out.new hb5); have X5 := hid (X4.out.new_ hb5); clear hb5 s0 s1 s2 s3 s4; obtain ⟨s0, s1, s2, s3, s4⟩ := HO0.out _ K5.out)
    | (refine Great.wpList_allocTo rfl _ rfl _ _ (HAH.out _ _ _ rfl) ?_)
    | (refine wpList_store_row rfl _ (.tmp 11) (.tmp 67) rfl w5.heap.size (ubs y).toArray rfl rfl 25 (ubs n32).toArray (At.new _ _ _) (sizeH_of HYL.out) (by simp [ubs_length, HNL.out, HYL.out]) (ubs_all _) ?_; have Bx := hid (show Below w5.heap.size w5 ((w5.alloc (.cells (ubs n32).toArray 25)).setRow w5.heap.size (ubs y).toArray) from below_setRow ((Below.refl _ _).alloc (Nat.le_refl _) _) (Nat.le_refl _) _); have Y6 := hid (show At ((w5.alloc (.cells (ubs n32).toArray 25)).setRow w5.heap.size (ubs y).toArray) w5.heap.size (ubs y).toArray 25 from setRow_heap _ _ _ _ _ _ (At.new w5 (ubs n32).toArray 25)); have K6 := hid (K5.out.new Bx.out); have LY6 := hid (K5.out.far); have X6 := hid (X5.out.new_ Bx.out); clear Bx s0 s1 s2 s3 s4; generalize ((w5.alloc (.cells (ubs n32).toArray 25)).setRow w5.heap.size (ubs y).toArray) = w6 at Y6 K6 X6 ⊢; generalize w5.heap.size = G8 at Y6 LY6 ⊢; obtain ⟨s0, s1, s2, s3, s4⟩ := HO0.out _ K6.out))
  go_upto_region 13 with (first
    | (refine wpList_valW (by rfl) (run_loadH (.tmp 7) rfl G 0 rfl own (range_whole X6.out) HRL.out) ?_)
    | (go_at_call 43; refine (HRW.out w6 K6.out.bl).mono ?_; rintro r7 w7 ⟨rfl, hb7⟩; have K7 := hid (K6.out.new hb7); have Y7 := hid (Y6.out.new_ hb7); clear hb7 s0 s1 s2 s3 s4; obtain ⟨s0, s1, s2, s3, s4⟩ := HO0.out _ K7.out)
    | (refine Great.wpList_allocTo rfl _ rfl _ _ (HAH.out _ _ _ rfl) ?_)
    | (refine wpList_store_row rfl _ (.tmp 13) (.tmp 81) rfl w7.heap.size (ubs y).toArray rfl rfl 25 (ubs n32).toArray (At.new _ _ _) (sizeH_of HYL.out) (by simp [ubs_length, HNL.out, HYL.out]) (ubs_all _) ?_; have Bx := hid (show Below w7.heap.size w7 ((w7.alloc (.cells (ubs n32).toArray 25)).setRow w7.heap.size (ubs y).toArray) from below_setRow ((Below.refl _ _).alloc (Nat.le_refl _) _) (Nat.le_refl _) _); have Z8 := hid (show At ((w7.alloc (.cells (ubs n32).toArray 25)).setRow w7.heap.size (ubs y).toArray) w7.heap.size (ubs y).toArray 25 from setRow_heap _ _ _ _ _ _ (At.new w7 (ubs n32).toArray 25)); have K8 := hid (K7.out.new Bx.out); have LZ8 := hid (K7.out.far); have Y8 := hid (Y7.out.new_ Bx.out); clear Bx s0 s1 s2 s3 s4; generalize ((w7.alloc (.cells (ubs n32).toArray 25)).setRow w7.heap.size (ubs y).toArray) = w8 at Z8 K8 Y8 ⊢; generalize w7.heap.size = G10 at Z8 LZ8 ⊢; obtain ⟨s0, s1, s2, s3, s4⟩ := HO0.out _ K8.out))
  go_wp2_with (first
    | (refine wpList_valW (by rfl) (run_loadH (.tmp 11) rfl G8 0 rfl y (range_whole Y8.out) HYL.out) ?_)
    | (refine wpList_valW (by rfl) (run_loadH (.tmp 13) rfl G10 0 rfl y (range_whole Z8.out) HYL.out) ?_)
    | (refine wpList_valW (by rfl) (run_eqlH _ (.tmp 83) (.tmp 84) rfl y y HYL.out HYL.out rfl rfl true (by simp) _) ?_)
    | (go_at_call 44; refine (HNUM.out ky _).mono ?_; rintro rn wn ⟨rfl, hwn⟩; rw [← hwn]; clear hwn))
  go_ret
  exact ⟨rfl, K8.out.bl⟩
end Go.Proofs.YtdegmcfcbndelaaDoor

namespace Go.Proofs.YtdegmcfcbndelaaDoor
open Go.RowKit

set_option maxRecDepth 100000 in
set_option maxHeartbeats 4000000 in
theorem stepWrites_F {w : World} (hA : Alive12C w) (h : Int) (l : List Nat) (old bes lv : List UInt8) (A AO AB AL AR : Option Addr) (c no co nb cb nl cl cr : Nat) (hr : Nu w w.heap.size A l) (hc : l.length ≤ c) (hO : Rd w w.heap.size AO (ubs old)) (hB : Rd w w.heap.size AB (ubs bes)) (hL : Rd w w.heap.size AL (ubs lv)) (hco : no ≤ co) (hcb : nb ≤ cb) (hcl : nl ≤ cl) (hold : old.length = 32 * no) (hbes : bes.length = 32 * nb) (hlv : lv.length = 32 * nl) (hT : Tabs w) (hR : Tabr w) (hI : Tab w 1 IV.l) (hg : largeB l.length no nb = false) (hn : nl ≤ 300) (hk : ccB h l no nb ≠ 0) :
    Calls Tryd.prog 7 #[.int .i64 h, .agg #[.slice A l.length c, .slice AO no co, .slice AB nb cb], .agg #[.slice AL nl cl, .slice AR 0 cr]] w fun r w' => r = .returned (.bool true) ∧ Below w.heap.size w w' := by
  have HRL := hid h3_length
  obtain ⟨own, hown⟩ : ∃ r, r = rootS h l no nb old bes := ⟨_, rfl⟩
  obtain ⟨kx, hkx⟩ : ∃ k, k = ccB h l no nb := ⟨_, rfl⟩
  have HOL := hid (show own.length = 32 by rw [hown]; exact rootS_length hold hbes)
  have HTX := hid (fun (V : World) (b : Below w.heap.size w V) => show Calls Tryd.prog 41 #[.int .i64 h, .slice A l.length c, .slice AO no co, .slice AB nb cb] V (fun r W' => ∃ A1 c1 N, r = .returned (.tuple #[.slice A1 N c1, .agg (ubs own).toArray, .int .i64 (kx : Int)]) ∧ Below V.heap.size V W') from by
    rw [hkx, hown]
    exact (textsR_any h l old bes A AO AB c no co nb cb V (hr.new b) ((hO.below b).mono b.size) ((hB.below b).mono b.size) hold hbes (hR.below b) (Tab.below (x := IV.a) (xs := [IV.b, IV.c, IV.d, IV.e, IV.f, IV.g, IV.h]) hI b)).mono fun r W' ⟨A1, c1, ps, h1, _, _, h4⟩ => ⟨A1, c1, ps.length, h1, h4⟩)
  rw [← hkx] at hk
  have k1 : decide ((kx : Int) = 0) = false := by simp; omega
  have k1b : ((kx : Int) == 0) = false := by simp; omega
  have k1c : decide (kx = 0) = false := by simpa using hk
  have k1d : (kx == 0) = false := by simpa using hk
  have HLG := hid (fun V => large_any l.length no nb A AO AB c co cb V)
  rw [hg] at HLG
  have HAF := hid (fun (V : World) (k : Below w.heap.size w V) => pwriteAfter_any h3 HRL.out h l old bes lv A AO AB AL c no co nb cb nl cl V (hr.new k) hc ((hO.below k).mono k.size) ((hB.below k).mono k.size) ((hL.below k).mono k.size) hco hcb hcl hold hbes hlv (hT.below k))
  have HRW := hid (fun (V : World) (k : Below w.heap.size w V) => writeR12_any h3 HRL.out h l old bes lv A AO AB AL c no co nb cb nl cl V (hr.new k) ((hO.below k).mono k.size) ((hB.below k).mono k.size) ((hL.below k).mono k.size) hold hbes hlv (hR.below k) (Tab.below (x := IV.a) (xs := [IV.b, IV.c, IV.d, IV.e, IV.f, IV.g, IV.h]) hI k))
  have HYL := hid (wrE_length (q := h3) (h := h) (l := l) (no := no) (old := old) hlv hbes)
  generalize wrE h3 h l no nb nl old bes lv = y at HAF HRW HYL
  generalize wrN h3 h l no nb nl old bes = ky at HAF HRW
  clear hr hc hO hB hL hco hcb hcl hold hbes hlv hT hR hI hg hk hkx hown
  generalize l.length = n at HLG HAF HRW HTX ⊢
  obtain ⟨C, hC⟩ : ∃ C : List Value, C = [.slice A n c, .slice AO no co, .slice AB nb cb] := ⟨_, rfl⟩
  obtain ⟨S, hS⟩ : ∃ S : List Value, S = [.slice AL nl cl, .slice AR 0 cr] := ⟨_, rfl⟩
  rw [show (#[.slice A n c, .slice AO no co, .slice AB nb cb] : Array Value) = C.toArray by rw [hC]] at HAF ⊢
  rw [show (#[.slice AL nl cl, .slice AR 0 cr] : Array Value) = S.toArray by rw [hS]]
  have K0 := hid (SwW.start (W := w) (C := C) (S := S))
  have HSC := hid (show C.length = 3 by rw [hC]; rfl)
  have HO0 := hid (fun (V : World) (k : SwW w C S V) => show V.cell? ⟨w.heap.size, 0, none⟩ = some (.slice A n c) ∧ V.cell? ⟨w.heap.size, 1, none⟩ = some (.slice AO no co) ∧ V.cell? ⟨w.heap.size, 2, none⟩ = some (.slice AB nb cb) ∧ V.cell? ⟨w.heap.size + 1, 0, none⟩ = some (.slice AL nl cl) ∧ V.cell? ⟨w.heap.size + 1, 1, none⟩ = some (.slice AR 0 cr) from by
    rw [k.at, k.at, k.at, k.in, k.in, hC, hS]
    exact ⟨rfl, rfl, rfl, rfl, rfl⟩)
  have HAL := hid (fun (V : World) (b : Below w.heap.size w V) => hA V b)
  have HAH := hid (fun (o : Oper) (a : Go.Act) (W : World) (h : o.op = .alloc 25) => run_alloc_of (o := o) (a := a) (W := W) _ h _ zeroH8)
  have HNL := hid n32_length
  have HNUM := hid (fun (k : Nat) V => enum_any k V)
  have H3L := hid h3_length
  have d1 : decide (300 < (nl : Int)) = false := by simp; omega
  have d1n : decide (300 < nl) = false := by simp; omega
  clear hC hS hA hn
  go_enter Tryd.func7, Tryd.ntmps7
  go_upto_region 3 with (first
    | (generalize ((w.alloc (.cells C.toArray 72)).alloc (.cells S.toArray 73)) = w0 at K0 ⊢; go_at_call 40; refine (HAL.out w0 K0.out.bl).mono ?_; rintro r1 w1 ⟨rfl, hb1⟩; have K1 := hid (K0.out.new hb1); clear hb1; obtain ⟨s0, s1, s2, s3, s4⟩ := HO0.out _ K1.out))
  go_upto_region 5 with (first
    | (go_at_call 27; refine (HLG.out _).mono ?_; rintro rl wl ⟨rfl, hwl⟩; rw [hwl]; clear hwl))
  go_upto_region 6 with (first
    | (refine wpList_valW (by rfl) (run_build_h3 rfl) ?_)
    | (refine Great.wpList_allocTo rfl _ rfl _ _ (HAH.out _ _ _ rfl) ?_)
    | (refine wpList_store_row rfl _ (.tmp 7) (.tmp 36) rfl w1.heap.size (ubs h3).toArray rfl rfl 25 (ubs n32).toArray (At.new _ _ _) (sizeH_of H3L.out) (by simp [ubs_length, HNL.out, H3L.out]) (ubs_all _) ?_; have Bx := hid (show Below w1.heap.size w1 ((w1.alloc (.cells (ubs n32).toArray 25)).setRow w1.heap.size (ubs h3).toArray) from below_setRow ((Below.refl _ _).alloc (Nat.le_refl _) _) (Nat.le_refl _) _); have X2 := hid (show At ((w1.alloc (.cells (ubs n32).toArray 25)).setRow w1.heap.size (ubs h3).toArray) w1.heap.size (ubs h3).toArray 25 from setRow_heap _ _ _ _ _ _ (At.new w1 (ubs n32).toArray 25)); have K2 := hid (K1.out.new Bx.out); have LX2 := hid (K1.out.far); clear Bx s0 s1 s2 s3 s4; generalize ((w1.alloc (.cells (ubs n32).toArray 25)).setRow w1.heap.size (ubs h3).toArray) = w2 at X2 K2 ⊢; generalize w1.heap.size = G at X2 LX2 ⊢; obtain ⟨s0, s1, s2, s3, s4⟩ := HO0.out _ K2.out))
  go_upto_region 11 with (first
    | (go_at_call 41; refine (HTX.out w2 K2.out.bl).mono ?_; rintro r3 w3 ⟨A3, c3, N3, rfl, hb3⟩; have K3 := hid (K2.out.new hb3); have X3 := hid (X2.out.new_ hb3); clear hb3 s0 s1 s2 s3 s4; obtain ⟨s0, s1, s2, s3, s4⟩ := HO0.out _ K3.out)
    | (refine Great.wpList_allocTo rfl _ rfl _ _ (HAH.out _ _ _ rfl) ?_)
    | (refine wpList_store_row rfl _ (.tmp 9) (.tmp 55) rfl w3.heap.size (ubs own).toArray rfl rfl 25 (ubs n32).toArray (At.new _ _ _) (sizeH_of HOL.out) (by simp [ubs_length, HNL.out, HOL.out]) (ubs_all _) ?_; have Bx := hid (show Below w3.heap.size w3 ((w3.alloc (.cells (ubs n32).toArray 25)).setRow w3.heap.size (ubs own).toArray) from below_setRow ((Below.refl _ _).alloc (Nat.le_refl _) _) (Nat.le_refl _) _); have Y3 := hid (show At ((w3.alloc (.cells (ubs n32).toArray 25)).setRow w3.heap.size (ubs own).toArray) w3.heap.size (ubs own).toArray 25 from setRow_heap _ _ _ _ _ _ (At.new w3 (ubs n32).toArray 25)); have K3b := hid (K3.out.new Bx.out); have LY3 := hid (K3.out.far); have X3b := hid (X3.out.new_ Bx.out); clear Bx s0 s1 s2 s3 s4; generalize ((w3.alloc (.cells (ubs n32).toArray 25)).setRow w3.heap.size (ubs own).toArray) = w3b at Y3 K3b X3b ⊢; generalize w3.heap.size = Go_ at Y3 LY3 ⊢; obtain ⟨s0, s1, s2, s3, s4⟩ := HO0.out _ K3b.out))
  go_upto_region 12 with (first
    | (refine wpList_valW (by rfl) (run_loadW12 (.tmp 4) rfl w.heap.size rfl C K3b.out.cu HSC.out) ?_)
    | (refine wpList_valW (by rfl) (run_loadH (.tmp 7) rfl G 0 rfl h3 (range_whole X3b.out) HRL.out) ?_)
    | (go_at_call 42; refine (HAF.out w3b K3b.out.bl).mono ?_; rintro r5 w5 ⟨rfl, hb5⟩; have K5 := hid (K3b.out.new hb5); have X5 := hid (X3b.out.new_ hb5); clear hb5 s0 s1 s2 s3 s4; obtain ⟨s0, s1, s2, s3, s4⟩ := HO0.out _ K5.out)
    | (refine Great.wpList_allocTo rfl _ rfl _ _ (HAH.out _ _ _ rfl) ?_)
    | (refine wpList_store_row rfl _ (.tmp 11) (.tmp 67) rfl w5.heap.size (ubs y).toArray rfl rfl 25 (ubs n32).toArray (At.new _ _ _) (sizeH_of HYL.out) (by simp [ubs_length, HNL.out, HYL.out]) (ubs_all _) ?_; have Bx := hid (show Below w5.heap.size w5 ((w5.alloc (.cells (ubs n32).toArray 25)).setRow w5.heap.size (ubs y).toArray) from below_setRow ((Below.refl _ _).alloc (Nat.le_refl _) _) (Nat.le_refl _) _); have Y6 := hid (show At ((w5.alloc (.cells (ubs n32).toArray 25)).setRow w5.heap.size (ubs y).toArray) w5.heap.size (ubs y).toArray 25 from setRow_heap _ _ _ _ _ _ (At.new w5 (ubs n32).toArray 25)); have K6 := hid (K5.out.new Bx.out); have LY6 := hid (K5.out.far); have X6 := hid (X5.out.new_ Bx.out); clear Bx s0 s1 s2 s3 s4; generalize ((w5.alloc (.cells (ubs n32).toArray 25)).setRow w5.heap.size (ubs y).toArray) = w6 at Y6 K6 X6 ⊢; generalize w5.heap.size = G8 at Y6 LY6 ⊢; obtain ⟨s0, s1, s2, s3, s4⟩ := HO0.out _ K6.out))
  go_upto_region 13 with (first
    | (refine wpList_valW (by rfl) (run_loadH (.tmp 7) rfl G 0 rfl h3 (range_whole X6.out) HRL.out) ?_)
    | (go_at_call 43; refine (HRW.out w6 K6.out.bl).mono ?_; rintro r7 w7 ⟨rfl, hb7⟩; have K7 := hid (K6.out.new hb7); have Y7 := hid (Y6.out.new_ hb7); clear hb7 s0 s1 s2 s3 s4; obtain ⟨s0, s1, s2, s3, s4⟩ := HO0.out _ K7.out)
    | (refine Great.wpList_allocTo rfl _ rfl _ _ (HAH.out _ _ _ rfl) ?_)
    | (refine wpList_store_row rfl _ (.tmp 13) (.tmp 81) rfl w7.heap.size (ubs y).toArray rfl rfl 25 (ubs n32).toArray (At.new _ _ _) (sizeH_of HYL.out) (by simp [ubs_length, HNL.out, HYL.out]) (ubs_all _) ?_; have Bx := hid (show Below w7.heap.size w7 ((w7.alloc (.cells (ubs n32).toArray 25)).setRow w7.heap.size (ubs y).toArray) from below_setRow ((Below.refl _ _).alloc (Nat.le_refl _) _) (Nat.le_refl _) _); have Z8 := hid (show At ((w7.alloc (.cells (ubs n32).toArray 25)).setRow w7.heap.size (ubs y).toArray) w7.heap.size (ubs y).toArray 25 from setRow_heap _ _ _ _ _ _ (At.new w7 (ubs n32).toArray 25)); have K8 := hid (K7.out.new Bx.out); have LZ8 := hid (K7.out.far); have Y8 := hid (Y7.out.new_ Bx.out); clear Bx s0 s1 s2 s3 s4; generalize ((w7.alloc (.cells (ubs n32).toArray 25)).setRow w7.heap.size (ubs y).toArray) = w8 at Z8 K8 Y8 ⊢; generalize w7.heap.size = G10 at Z8 LZ8 ⊢; obtain ⟨s0, s1, s2, s3, s4⟩ := HO0.out _ K8.out))
  go_wp2_with (first
    | (refine wpList_valW (by rfl) (run_loadH (.tmp 11) rfl G8 0 rfl y (range_whole Y8.out) HYL.out) ?_)
    | (refine wpList_valW (by rfl) (run_loadH (.tmp 13) rfl G10 0 rfl y (range_whole Z8.out) HYL.out) ?_)
    | (refine wpList_valW (by rfl) (run_eqlH _ (.tmp 83) (.tmp 84) rfl y y HYL.out HYL.out rfl rfl true (by simp) _) ?_)
    | (go_at_call 44; refine (HNUM.out ky _).mono ?_; rintro rn wn ⟨rfl, hwn⟩; rw [← hwn]; clear hwn))
  go_ret
  exact ⟨rfl, K8.out.bl⟩
end Go.Proofs.YtdegmcfcbndelaaDoor
