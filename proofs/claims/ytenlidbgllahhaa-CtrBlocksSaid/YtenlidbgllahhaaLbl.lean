/-
  CtrBlocks, walked.
-/
import Derived.Test.YtenlidbgllahhaaGk
import Derived.Test.YtenlidbgllahhaaFt
import Derived.Test.YtenlidbgllahhaaOc
namespace Go.Proofs.Ytenlidbgllahhaa
open Go.RowKit Go.Shelf

attribute [local go_sem] Oper.semAt_some

theorem u64wrap (n : Int) : ∃ u : Nat, IntKind.u64.wrap n = (u : Int) ∧ u < 18446744073709551616 := by
  refine ⟨(n % 18446744073709551616).toNat, ?_, ?_⟩
  · simp [IntKind.wrap, IntKind.signed, IntKind.bits]
    omega
  · omega
theorem rem12 (t : TypeId) (q : Nat) : binOp .rem t (.int .u64 (q : Int)) (.int .u64 12) = pure (.int .u64 ((q % 12 : Nat) : Int)) := by
  simp [binOp, Op.intDiv, Int.tmod_eq_emod_of_nonneg]
theorem strk_part (ks c : List UInt8) (m n : Nat) (hn : n < m) : ∃ z, strk ks c m = strk ks c n ++ (encL ks (nextL c n) ++ z) := by
  induction m with
  | zero => omega
  | succ m ih =>
    by_cases e : n = m
    · subst e
      exact ⟨[], by rw [strk_succ]; simp⟩
    · obtain ⟨z, hz⟩ := ih (by omega)
      exact ⟨z ++ encL ks (nextL c m), by rw [strk_succ, hz]; simp⟩
theorem streamL_whole (ks c : List UInt8) (n : Nat) : streamL ks c (16 * n + 16) = strk ks c (n + 1) := by
  rw [streamL, show (16 * n + 16 + 15) / 16 = n + 1 by omega, List.take_of_length_le (by rw [strk_length]; omega)]
theorem streamL_one (ks c : List UInt8) (hc : c.length = 16) : streamL ks c 16 = encL ks c := by
  have := streamL_whole ks c 0
  rw [this, strk_succ, strk_zero, nextL_zero c hc, List.nil_append]
/-- A block out of a stream. -/
theorem rb_block {W : World} {g : Nat} {ks c : List UInt8} {n k : Nat} {t : TypeId} (h : At W g (ubs (streamL ks c (16 * n + 16))).toArray t) (hk : k ≤ n) : Rb W W.heap.size (some ⟨g, 16 * k, none⟩) (encL ks (nextL c k)) := by
  obtain ⟨z, hz⟩ := strk_part ks c (n + 1) k (by omega)
  rw [streamL_whole, hz] at h
  refine Rd.of_at h (16 * k) (fun j u hj => ?_) h.lt
  rw [List.getElem?_toArray, ubs_append, ubs_append, List.getElem?_append_right (by rw [ubs_length, strk_length]; omega), ubs_length, strk_length, Nat.add_sub_cancel_left, List.getElem?_append_left (by
    have := (List.getElem?_eq_some_iff.1 hj).1
    exact this)]
  exact hj
/-- What holds while the law goes on. -/
structure BlB (w : World) (key c : List UInt8) (nv : Value) (W : World) : Prop where
  key : At W w.heap.size (ubs key).toArray 27
  ctr : At W (w.heap.size + 1) (ubs c).toArray 26
  nb : At W (w.heap.size + 2) #[nv] 3
  res : At W (w.heap.size + 3) #[.bool false] 4
  below : Below w.heap.size w W
theorem BlB.new {w W W' : World} {key c : List UInt8} {nv : Value} (h : BlB w key c nv W) (hb : Below W.heap.size W W') : BlB w key c nv W' := ⟨h.key.new_ hb, h.ctr.new_ hb, h.nb.new_ hb, h.res.new_ hb, h.below.trans (hb.mono h.below.size)⟩
theorem BlB.set {w W : World} {key c : List UInt8} {nv : Value} (h : BlB w key c nv W) (v : Value) : BlB w key c v (W.setCell ⟨w.heap.size + 2, 0, none⟩ v) :=
  ⟨h.key.far (p := ⟨w.heap.size + 2, 0, none⟩) (by simp) _, h.ctr.far (p := ⟨w.heap.size + 2, 0, none⟩) (by simp) _, h.nb.put 0 v, h.res.far (p := ⟨w.heap.size + 2, 0, none⟩) (by simp) _, h.below.setCell (by simp) _⟩
/-- What holds between the rounds of the law's loop. -/
structure BuW (w : World) (key c : List UInt8) (N ga m2 T8 Ti k : Nat) (W : World) : Prop where
  num : k ≤ N
  base : BlB w key c (.int .i64 (N : Int)) W
  all : At W ga (ubs (streamL (rks key 11) c m2)).toArray 5
  sl : At W T8 #[.slice (some ⟨ga, 0, none⟩) m2 m2] 37
  i : At W Ti #[.int .i64 (k : Int)] 3
theorem BuW.new {w W W' : World} {key c : List UInt8} {N ga m2 T8 Ti k : Nat} (h : BuW w key c N ga m2 T8 Ti k W) (hb : Below W.heap.size W W') : BuW w key c N ga m2 T8 Ti k W' := ⟨h.num, h.base.new hb, h.all.new_ hb, h.sl.new_ hb, h.i.new_ hb⟩
theorem BlB.far {w W : World} {key c : List UInt8} {nv : Value} {T : Nat} (h : BlB w key c nv W) (hT : w.heap.size + 3 < T) (v : Value) : BlB w key c nv (W.setCell ⟨T, 0, none⟩ v) :=
  ⟨h.key.far (p := ⟨T, 0, none⟩) (by simp; omega) _, h.ctr.far (p := ⟨T, 0, none⟩) (by simp; omega) _, h.nb.far (p := ⟨T, 0, none⟩) (by simp; omega) _, h.res.far (p := ⟨T, 0, none⟩) (by simp; omega) _, h.below.setCell (by simp; omega) _⟩
theorem BlB.free {w W W' : World} {key c : List UInt8} {nv : Value} {B : Nat} {row : Option Nat} (h : BlB w key c nv W) (hB : w.heap.size + 3 < B) (hg : W.grownBy W' row) (hr : ∀ r, row = some r → B ≤ r) : BlB w key c nv W' :=
  ⟨at_free h.key (by omega) hg hr, at_free h.ctr (by omega) hg hr, at_free h.nb (by omega) hg hr, at_free h.res hB hg hr, h.below.grown hg h.below.size (fun k e => by have := hr k e; omega)⟩
theorem BuW.free {w : World} {key c : List UInt8} {N ga m2 T8 Ti B : Nat} (hB : w.heap.size + 3 < B) (h1 : ga < B) (h2 : T8 < B) (h3 : Ti < B) : FreeFrom B (fun k W => BuW w key c N ga m2 T8 Ti k W) := fun _ _ _ _ h hg hr =>
  ⟨h.num, h.base.free hB hg hr, at_free h.all h1 hg hr, at_free h.sl h2 hg hr, at_free h.i h3 hg hr⟩
theorem small_wrap (k k1 N : Nat) (h1 : k1 = k + 1) (h2 : k ≤ N) (h3 : N < 12) : RowKit.wrap64 (k1 : Int) = (k1 : Int) ∧ IntKind.i64.wrap (k1 : Int) = (k1 : Int) := by
  rw [IntKind.wrap_i64]
  unfold RowKit.wrap64
  omega
theorem small_last (k k1 N : Nat) (h1 : k1 = k + 1) (h2 : k ≤ N) : (k = N → (decide ((N : Int) < (k1 : Int)) = true ∧ decide (N < k1) = true) ∧ N + 1 = k1) ∧ (¬ k = N → (decide ((N : Int) < (k1 : Int)) = false ∧ decide (N < k1) = false) ∧ k + 1 ≤ N) := by
  refine ⟨fun h => ⟨⟨?_, ?_⟩, by omega⟩, fun h => ⟨⟨?_, ?_⟩, by omega⟩⟩ <;> simp <;> omega
theorem results_cell_one {P : Program} {fn : Func} {p : Tmp} {ty : TypeId} (h : fn.results = #[.cell p ty]) (tmps : Array Value) (w : World) (a : Addr) (v : Value) (hp : tmps.getD p undef = .pointer (some a)) (hl : (loadVar ty a).run P w = .ok v w) : (results fn tmps).run P w = .ok v w := by
  have hp' : tmps[p]?.getD undef = .pointer (some a) := by simpa using hp
  simp [results, h, hp', asAddr, hl]
theorem run_slice_block (g m2 o o2 : Nat) (h2 : o2 = o + 16) (hc : o2 ≤ m2) (W : World) : (Instr.slice 37 (.slice (some ⟨g, 0, none⟩) m2 m2) (some (.int .i64 (o : Int))) (some (.int .i64 (o2 : Int))) none).run Try.prog W = .ok (.slice (some ⟨g, o, none⟩) 16 (m2 - o)) W := by
  have h := run_slice_lh (P := Try.prog) (w := W) (t := 37) (a := some ⟨g, 0, none⟩) (len := m2) (cap := m2) (by kernel_rfl) .i64 .i64 (o : Int) (o2 : Int) (by omega) (by omega) (by omega)
  rw [h, elemB, run_size8]
  simp only [Result.andThen_ok, Int.toNat_natCast, sliced]
  rw [if_neg (by omega), show o2 - o = 16 by omega]
  simp only [Option.map_some, Addr.add_mid]
  rw [show 0 + o * 1 = o by omega]
set_option maxRecDepth 100000 in
set_option maxHeartbeats 4000000 in
theorem blocks_law (key c : List UInt8) (n : Int) (w : World) (hk : key.length = 16) (hc : c.length = 16) :
    Calls Try.prog 7 #[.agg (ubs key).toArray, .agg (ubs c).toArray, .int .i64 n] w fun e w' => e = .returned (.bool true) ∧ Below w.heap.size w w' := by
  obtain ⟨u, hu, hub⟩ := u64wrap n
  have hrem := rem12 49 u
  obtain ⟨N, hN⟩ : ∃ N, N = u % 12 := ⟨_, rfl⟩
  rw [← hN] at hrem
  have hN12 : N < 12 := by omega
  have wN : IntKind.i64.wrap (N : Int) = (N : Int) := by rw [IntKind.wrap_i64] <;> omega
  obtain ⟨m, hm⟩ : ∃ m, m = 16 * N := ⟨_, rfl⟩
  obtain ⟨m2, hm2⟩ : ∃ m2, m2 = m + 16 := ⟨_, rfl⟩
  have em : 16 * (N : Int) = (m : Int) := by omega
  have em2 : (m : Int) + 16 = (m2 : Int) := by omega
  have ed : m2 - m = 16 := by omega
  have wm : RowKit.wrap64 (m : Int) = (m : Int) := by unfold RowKit.wrap64; omega
  have wm2 : RowKit.wrap64 (m2 : Int) = (m2 : Int) := by unfold RowKit.wrap64; omega
  have hlm : m < m2 := by omega
  have HA := hid (fun W => alive5_any W)
  have HT := hid (show BlB w key c (.int .i64 n) ((((w.alloc (.cells (ubs key).toArray 27)).alloc (.cells (ubs c).toArray 26)).alloc (.cells #[.int .i64 n] 3)).alloc (.cells #[.bool false] 4)) from
    ⟨(((At.new _ _ _).alloc _).alloc _).alloc _, ((At.new_at (by simp)).alloc _).alloc _, (At.new_at (by simp)).alloc _, At.new_at (by simp), (((((Below.refl _ _).alloc (Nat.le_refl _) _).alloc (by simp) _).alloc (by simp; omega) _).alloc (by simp; omega) _)⟩)
  have HCL := hid hc
  have HKL := hid hk
  have HNL := hid (nextL_length c N)
  have HNA := hid (fun W => new_any key W hk)
  have hS := hid (fun (W : World) (C : Nat) (h : At W C (ubs (rks key 11)).toArray 58) => pstream_any key c (some ⟨C, 0, none⟩) m2 W hk hc (.inr ⟨C, rfl, h⟩) (by omega))
  have hX := hid (fun (W : World) => pnext_any c N W hc (by omega))
  have hS2 := hid (fun (W : World) (C : Nat) (h : At W C (ubs (rks key 11)).toArray 58) => show Calls Try.prog 22 #[.pointer (some ⟨C, 0, none⟩), .agg (ubs (nextL c N)).toArray, .int .i64 16] W _ from pstream_any key (nextL c N) (some ⟨C, 0, none⟩) 16 W hk (nextL_length c N) (.inr ⟨C, rfl, h⟩) (by omega))
  rw [streamL_one _ _ HNL.out] at hS2
  have hBy := hid (fun (W : World) (g h gl cap : Nat) (h1 : At W g (ubs (streamL (rks key 11) c m2)).toArray 5) (h2 : At W gl (ubs (encL (rks key 11) (nextL c N))).toArray 5) => bytes_same (encL (rks key 11) (nextL c N)) 16 (encL_length _ _) (some ⟨g, m, none⟩) (some ⟨gl, 0, none⟩) h cap W (by
    rw [hm2, hm] at h1
    rw [hm]
    exact rb_block h1 (Nat.le_refl _)) (rb_at h2))
  have hBl := hid (fun (W : World) (C : Nat) (h : At W C (ubs (rks key 11)).toArray 58) => pblocks_any key c (some ⟨C, 0, none⟩) W hk (.inr ⟨C, rfl, h⟩))
  have HM := hid (show m = 16 * N ∧ m2 = 16 * N + 16 ∧ N < 12 from ⟨hm, by omega, hN12⟩)
  have w64 := wrap64 N (by omega)
  clear hk hc hN hub hm hm2 hN12
  refine (callsIn_wide (n := 6)).1 ?_
  refine callsIn_of_wp_marks Try.func7 rfl trivial ?_ rfl
  refine wpIn_wide.2 ?_
  simp only [Try.ntmps7, List.size_toArray, List.length_cons, List.length_nil, Nat.reduceAdd, Nat.reduceSub, Array.replicate_succ, Array.replicate_zero, List.push_toArray, List.append_toArray, List.nil_append, List.cons_append]
  go_wp2_with (first
    | (go_at_call 21; refine (HA.out _).mono ?_; rintro e w1 ⟨rfl, hb1⟩; have T1 := hid (HT.out.new hb1); have q1 := T1.out.nb.cell 0; have f1 := T1.out.nb.frozen 0; have T2 := hid (T1.out.set (.int .i64 (N : Int))); clear hb1)
    | (refine wpList_load_row rfl _ (.tmp 3) rfl w.heap.size rfl 27 (ubs key).toArray (0, 0) _ T2.out.key Try.underlying27 rfl (sizeKey_of HKL.out) ?_)
    | (go_at_call 16; refine (HNA.out _).mono ?_; rintro e w3 ⟨C, rfl, -, hC, hb3⟩; have T3 := hid (T2.out.new hb3); have C3 := hid hC; have q3 := T3.out.nb.cell 0; clear hb3 hC q1 f1)
    | (refine wpList_load_row rfl _ (.tmp 4) rfl (w.heap.size + 1) rfl 26 (ubs c).toArray (0, 0) _ T3.out.ctr Try.underlying26 rfl (size16_of HCL.out) ?_)
    | (go_at_call 22; ((with_reducible refine (hS.out w3 C C3.out).mono ?_); rintro e w4 ⟨ga, rfl, -, hA4, hb4⟩); have T4 := hid (T3.out.new hb4); have A4 := hid hA4; have C4 := hid (C3.out.new_ hb4); have T5 := hid (T4.out.new ((Below.refl w4.heap.size w4).alloc (Nat.le_refl _) (.cells #[.slice (some ⟨ga, 0, none⟩) m2 m2] 37))); have A5 := hid (A4.out.alloc (.cells #[.slice (some ⟨ga, 0, none⟩) m2 m2] 37)); have C5 := hid (C4.out.alloc (.cells #[.slice (some ⟨ga, 0, none⟩) m2 m2] 37)); have S5 := hid (At.new w4 #[.slice (some ⟨ga, 0, none⟩) m2 m2] 37); have q5 := T5.out.nb.cell 0; clear hb4 hA4 q3)
    | (refine wpList_load_row rfl _ (.tmp 4) rfl (w.heap.size + 1) rfl 26 (ubs c).toArray (0, 0) _ T5.out.ctr Try.underlying26 rfl (size16_of HCL.out) ?_)
    | (go_at_call 26; refine (hX.out _).mono ?_; rintro e w6 ⟨rfl, hb6⟩; have T6 := hid (T5.out.new hb6); have A6 := hid (A5.out.new_ hb6); have C6 := hid (C5.out.new_ hb6); have S6 := hid (S5.out.new_ hb6); clear hb6)
    | (go_at_call 22; ((with_reducible refine (hS2.out w6 C C6.out).mono ?_); rintro e w7 ⟨gl, rfl, -, hA7, hb7⟩); have T7 := hid (T6.out.new hb7); have A7 := hid (A6.out.new_ hb7); have L7 := hid hA7; have C7 := hid (C6.out.new_ hb7); have S7 := hid (S6.out.new_ hb7); have q7 := T7.out.nb.cell 0; have s7 := S7.out.cell 0; clear hb7 hA7 q5)
    | (go_at_call 19; refine (hBy.out w7 ga _ gl _ A7.out L7.out).mono ?_; rintro e w8 ⟨rfl, rfl⟩)
    | (refine wpList_load_row rfl _ (.tmp 4) rfl (w.heap.size + 1) rfl 26 (ubs c).toArray (0, 0) _ (T7.out.ctr.alloc _) Try.underlying26 rfl (size16_of HCL.out) ?_)
    | (go_at_call 28; refine (hBl.out _ C (C7.out.alloc _)).mono ?_; rintro e w9 ⟨D, C2, rfl, hD, hC2, hI9, hb9⟩; have HD := hid hD; have HC2 := hid hC2; have HI := hid hI9; have HB9 := hid hb9; clear hD hC2 hI9 hb9))
  have hs8 : (w7.alloc (.cells #[.int .i64 0] 3)).heap.size = w7.heap.size + 1 := by simp
  rw [hs8] at HD HC2 HI HB9
  have HLS := hid (show w.heap.size + 3 < w7.heap.size ∧ ga < w7.heap.size ∧ w4.heap.size < w7.heap.size from ⟨T7.out.res.lt, A7.out.lt, S7.out.lt⟩)
  have HU := hid (show BuW w key c N ga m2 w4.heap.size w7.heap.size 0 w9 from ⟨Nat.zero_le _, T7.out.new (((Below.refl w7.heap.size w7).alloc (Nat.le_refl _) (.cells #[.int .i64 0] 3)).trans (HB9.out.mono (by omega))),
    (A7.out.alloc _).below HB9.out (by have := HLS.out; omega), (S7.out.alloc _).below HB9.out (by have := HLS.out; omega), (At.new w7 #[.int .i64 0] 3).below HB9.out (by omega)⟩)
  have HW9 := hid HI.out.ctr.lt
  obtain ⟨Ti, hTi⟩ : ∃ Ti, Ti = w7.heap.size := ⟨_, rfl⟩
  obtain ⟨T8, hT8⟩ : ∃ T8, T8 = w4.heap.size := ⟨_, rfl⟩
  rw [← hTi, ← hT8] at HU HLS
  rw [← hTi] at HW9 HI HC2 HD
  rw [← hTi, ← hT8]
  have HTN := hid (show T8 ≠ Ti ∧ ga ≠ Ti by have := HLS.out; omega)
  clear HB9 hs8 hTi hT8 T1 T2 T3 T4 T5 T6 T7 C3 C4 C5 C6 C7 A4 A5 A6 A7 L7 S5 S6 S7 q7 s7 HT HNA hS hX hS2 hBy hBl HA
  obtain ⟨N1, hN1⟩ : ∃ N1, N1 = N + 1 := ⟨_, rfl⟩
  have HN1 := hid hN1
  have HWN := hid (show RowKit.wrap64 (N1 : Int) = (N1 : Int) from (small_wrap N N1 N hN1 (Nat.le_refl _) HM.out.2.2).1)
  clear hN1
  have HE := hid (blocks_ends (6 - 1) (Ti + 1) D C2 (fun k => k = Ti) key c w9 HKL.out HCL.out HI.out (fun k h => by have := HW9.out; omega) (fun h => by have := HD.out; omega) (fun h => by have := HC2.out; omega))
  refine (wpIn_wide (n := 6)).1 ?_
  refine wpIn_rangeFunc_ends (F := Fence.wide) (n := 6) rfl (by omega) (gf := 38) (lb := #[.pointer (some ⟨Ti + 1, 0, none⟩), .pointer (some ⟨D, 0, none⟩)]) rfl trivial (enters_of Try.func38 (by kernel_rfl) rfl)
    HE.out (fun h k => h.trans k) (fun W l o o' _ h hc => KeepsOut.putObj W l o o' h hc) (Below.refl _ _) (fun _ => rfl)
    (N + 1) (fun k W => BuW w key c N ga m2 T8 Ti k W)
    (fun cd W => cd = .exit 0 ∧ BlB w key c (.int .i64 (N : Int)) W ∧ At W Ti #[.int .i64 (N1 : Int)] 3)
    (fun k a' W => ∃ Bx, (BuW w key c N ga m2 T8 Ti k W ∧ At W Bx (ubs (encL (rks key 11) (nextL c k))).toArray 26) ∧ a' = { tmps := #[.agg (ubs key).toArray, .agg (ubs c).toArray, .int .i64 n, .pointer (some ⟨w.heap.size, 0, none⟩), .pointer (some ⟨w.heap.size + 1, 0, none⟩), .pointer (some ⟨w.heap.size + 1 + 1, 0, none⟩), .pointer (some ⟨w.heap.size + 1 + 1 + 1, 0, none⟩), .pointer (some ⟨C, 0, none⟩), .pointer (some ⟨T8, 0, none⟩), .nilIface, .slice (some ⟨gl, 0, none⟩) 16 16, .nilIface, .pointer (some ⟨Ti, 0, none⟩), .pointer (some ⟨Bx, 0, none⟩), .bool true, .bool false, .int .i64 n, .int .u64 (u : Int), .int .u64 (N : Int), .int .i64 (N : Int), .agg (ubs key).toArray, .pointer (some ⟨C, 0, none⟩), .tuple #[.slice (some ⟨ga, 0, none⟩) m2 m2, .nilIface], .pointer (some ⟨C, 0, none⟩), .agg (ubs c).toArray, .int .i64 (N : Int), .int .i64 (m : Int), .int .i64 (m2 : Int), .tuple #[.slice (some ⟨ga, 0, none⟩) m2 m2, .nilIface], .slice (some ⟨ga, 0, none⟩) m2 m2, .nilIface, .tuple #[.slice (some ⟨gl, 0, none⟩) 16 16, .nilIface], .pointer (some ⟨C, 0, none⟩), .agg (ubs c).toArray, .int .i64 (N : Int), .int .u64 (N : Int), .agg (ubs (nextL c N)).toArray, .tuple #[.slice (some ⟨gl, 0, none⟩) 16 16, .nilIface], .slice (some ⟨gl, 0, none⟩) 16 16, .nilIface, .nilIface, .bool false, .bool false, .nilIface, .bool false, .bool false, .bool false, .slice (some ⟨ga, 0, none⟩) m2 m2, .int .i64 (m2 : Int), .int .i64 (N : Int), .int .i64 (m : Int), .int .i64 (m2 : Int), .bool false, .bool false, .bool false, .slice (some ⟨ga, 0, none⟩) m2 m2, .int .i64 (N : Int), .int .i64 (m : Int), .slice (some ⟨ga, m, none⟩) 16 16, .slice (some ⟨gl, 0, none⟩) 16 16, .bool true, .bool false, .bool false, .pointer (some ⟨C, 0, none⟩), .agg (ubs c).toArray, .func (.func 38) #[] #[.pointer (some ⟨Ti + 1, 0, none⟩), .pointer (some ⟨D, 0, none⟩)], .agg (ubs (encL (rks key 11) (nextL c k))).toArray, undef, undef, undef, undef, undef, undef, undef, undef, undef, undef, undef, undef, undef, undef, undef, undef, undef, undef, undef], defers := [] })
    (BuW.free (by have := HLS.out; have := HW9.out; omega) (by have := HLS.out; have := HW9.out; omega) (by have := HLS.out; have := HW9.out; omega) (by have := HW9.out; omega))
    ?ix ?bo ?bound HU.out ?assign ?body ?stop
  case ix => exact fun cd W W' row h hg hr => ⟨h.1, h.2.1.free (B := w9.heap.size) (by have := HLS.out; have := HW9.out; omega) hg (fun r e => (hr r e).1), at_free (B := w9.heap.size) h.2.2 (by have := HW9.out; omega) hg (fun r e => (hr r e).1)⟩
  case bo =>
    rintro a' k W W' row ⟨Bx, ⟨h1, h2⟩, e⟩ hg hr
    exact ⟨Bx, ⟨BuW.free (B := w9.heap.size) (by have := HLS.out; have := HW9.out; omega) (by have := HLS.out; have := HW9.out; omega) (by have := HLS.out; have := HW9.out; omega) (by have := HW9.out; omega) k W W' row h1 hg (fun r e => (hr r e).1), at_own Bx _ (fun (_ : Unit) => _) () W W' row h2 hg (fun r e => (hr r e).2)⟩, e⟩
  case bound => exact fun k W h => by have := h.num; omega
  case assign =>
    intro l k W K hI hK
    have HEL := hid (encL_length (rks key 11) (nextL c k))
    have hb2 : Below W.heap.size W ((W.alloc (.cells (ubs n16).toArray 26)).setRow W.heap.size (ubs (encL (rks key 11) (nextL c k))).toArray) := below_setRow ((Below.refl _ _).alloc (Nat.le_refl _) _) (Nat.le_refl _) _
    have HK := hid (fun a' e => hK a' _ ((others_of_below hb2).from _) (KeepsOut.of_below hb2) ⟨W.heap.size, ⟨hI.new hb2, setRow_heap _ _ (ubs n16).toArray _ _ _ (At.new _ _ _)⟩, e⟩)
    clear hK hb2 hI HU
    have hz := noughts16
    simp only [elB]
    gi_wp2_with (refine wpListIn_store_row rfl _ (.tmp 13) (.tmp 66) rfl W.heap.size (ubs (encL (rks key 11) (nextL c k))).toArray rfl rfl 26 (ubs n16).toArray (At.new _ _ _) (size16_of HEL.out) ?e5 (ubs_all _) ?e6; rotate_right)
    case e5 => rw [ubs_length, ubs_length, n16_length, HEL.out]
    exact HK.out _ rfl
  case body =>
    rintro l k a' W ⟨Bx, ⟨hI, hX⟩, rfl⟩
    have HX := hid hX
    have HI2 := hid hI
    clear hX hI HU
    obtain ⟨y, hy⟩ : ∃ y, y = encL (rks key 11) (nextL c k) := ⟨_, rfl⟩
    have HYL := hid (show y.length = 16 by rw [hy]; exact encL_length _ _)
    rw [← hy] at HX
    obtain ⟨o, ho⟩ : ∃ o, o = 16 * k := ⟨_, rfl⟩
    obtain ⟨o2, ho2⟩ : ∃ o2, o2 = o + 16 := ⟨_, rfl⟩
    have hkN := HI2.out.num
    have eo : 16 * (k : Int) = (o : Int) := by omega
    have eo2 : (o : Int) + 16 = (o2 : Int) := by omega
    have wo : RowKit.wrap64 (o : Int) = (o : Int) := by have := HM.out; unfold RowKit.wrap64; omega
    have wo2 : RowKit.wrap64 (o2 : Int) = (o2 : Int) := by have := HM.out; unfold RowKit.wrap64; omega
    have wo' : IntKind.i64.wrap (o : Int) = (o : Int) := by rw [IntKind.wrap_i64]; have := HM.out; omega
    have wo2' : IntKind.i64.wrap (o2 : Int) = (o2 : Int) := by rw [IntKind.wrap_i64]; have := HM.out; omega
    have hsl := run_slice_block ga m2 o o2 ho2 (by have := HM.out; omega)
    have hBB := hid (fun (W : World) (h : BuW w key c N ga m2 T8 Ti k W) (cap cap2 : Nat) (h2 : At W Bx (ubs y).toArray 26) => bytes_same y 16 HYL.out (some ⟨Bx, 0, none⟩) (some ⟨ga, o, none⟩) cap cap2 W (rb_at h2) (by
      have h3 := h.all
      rw [HM.out.2.1] at h3
      rw [hy, ho]
      exact rb_block h3 hkN))
    rw [← hy]
    clear hy ho ho2 hkN
    gi_wp2
    refine wpIn_region_facts 10 [67, 68, 69, 70, 71, 72, 73, 74, 75, 76] (fun i v _ => match i with | 0 => v = .slice (some ⟨Bx, 0, none⟩) 16 16 | 1 => v = .slice (some ⟨ga, 0, none⟩) m2 m2 | 2 => v = .int .i64 (k : Int) | 3 => v = .int .i64 (o : Int) | 4 => v = .int .i64 (k : Int) | 5 => v = .int .i64 (o : Int) | 6 => v = .int .i64 (o2 : Int) | 7 => v = .slice (some ⟨ga, o, none⟩) 16 (m2 - o) | 8 => v = .bool true | _ => v = .bool false) (fun V => BuW w key c N ga m2 T8 Ti k V ∧ At V Bx (ubs y).toArray 26 ∧ Kept (fun k => k = Ti) W V) (by kernel_rfl) (by kernel_rfl)
      (fun W W' h hb => ⟨h.1.new hb, h.2.1.new_ hb, h.2.2.trans (Kept.of_below hb)⟩) (fun _ _ _ _ h _ => h) (⟨HI2.out.new ((Below.refl _ _).drew), HX.out.new_ ((Below.refl _ _).drew), (Kept.refl _ _).drewN 1⟩) ?_ ?_
    · intro i hi vals W K hB hn hK
      simp only [frm_cons, frm_nil, List.set_cons_succ, List.set_cons_zero, Nat.reduceAdd] at hK ⊢
      rcases (by omega : i = 0 ∨ i = 1 ∨ i = 2 ∨ i = 3 ∨ i = 4 ∨ i = 5 ∨ i = 6 ∨ i = 7 ∨ i = 8 ∨ i = 9) with rfl | rfl | rfl | rfl | rfl | rfl | rfl | rfl | rfl | rfl
      · refine wpOpIn_plain rfl rfl (wpIn_val (w' := W) (v := .slice (some ⟨Bx, 0, none⟩) 16 16) (fun c e => by cases e) (by rfl) (by go_simp) ?_)
        exact hK _ _ rfl (Below.refl _ _)
      · have q := hB.1.sl.cell 0
        refine wpOpIn_plain rfl rfl (wpIn_val (w' := W) (v := .slice (some ⟨ga, 0, none⟩) m2 m2) (fun c e => by cases e) (by rfl) (by go_simp) ?_)
        exact hK _ _ rfl (Below.refl _ _)
      · have q := hB.1.i.cell 0
        refine wpOpIn_plain rfl rfl (wpIn_val (w' := W) (v := .int .i64 (k : Int)) (fun c e => by cases e) (by rfl) (by go_simp) ?_)
        exact hK _ _ rfl (Below.refl _ _)
      · have h2 := hn 2 (by decide +kernel)
        simp only [] at h2
        simp only [h2] at hK ⊢
        refine wpOpIn_plain rfl rfl (wpIn_val (w' := W) (v := .int .i64 (o : Int)) (fun c e => by cases e) (by rfl) (by go_simp) ?_)
        exact hK _ _ rfl (Below.refl _ _)
      · have q := hB.1.i.cell 0
        refine wpOpIn_plain rfl rfl (wpIn_val (w' := W) (v := .int .i64 (k : Int)) (fun c e => by cases e) (by rfl) (by go_simp) ?_)
        exact hK _ _ rfl (Below.refl _ _)
      · have h4 := hn 4 (by decide +kernel)
        simp only [] at h4
        simp only [h4] at hK ⊢
        refine wpOpIn_plain rfl rfl (wpIn_val (w' := W) (v := .int .i64 (o : Int)) (fun c e => by cases e) (by rfl) (by go_simp) ?_)
        exact hK _ _ rfl (Below.refl _ _)
      · have h5 := hn 5 (by decide +kernel)
        simp only [] at h5
        simp only [h5] at hK ⊢
        refine wpOpIn_plain rfl rfl (wpIn_val (w' := W) (v := .int .i64 (o2 : Int)) (fun c e => by cases e) (by rfl) (by go_simp) ?_)
        exact hK _ _ rfl (Below.refl _ _)
      · have h1 := hn 1 (by decide +kernel)
        have h3 := hn 3 (by decide +kernel)
        have h6 := hn 6 (by decide +kernel)
        simp only [] at h1 h3 h6
        simp only [h1, h3, h6] at hK ⊢
        refine wpOpIn_plain rfl rfl (wpIn_val (w' := W) (v := .slice (some ⟨ga, o, none⟩) 16 (m2 - o)) (fun c e => by cases e) (by rfl) (by go_simp) ?_)
        exact hK _ _ rfl (Below.refl _ _)
      · have h0 := hn 0 (by decide +kernel)
        have h7 := hn 7 (by decide +kernel)
        simp only [] at h0 h7
        simp only [h0, h7] at hK ⊢
        refine wpOpIn_plain rfl rfl ?_
        go_simp
        refine ⟨trivial, ?_⟩
        gi_at_call 19
        refine (CallsIn.inRound l (callsIn_wide.2 (hBB.out W hB.1 _ _ hB.2.1))).mono ?_
        rintro e W' ⟨rfl, rfl⟩
        exact hK _ _ rfl (Below.refl _ _)
      · have h8 := hn 8 (by decide +kernel)
        simp only [] at h8
        simp only [h8] at hK ⊢
        refine wpOpIn_plain rfl rfl (wpIn_val (w' := W) (v := .bool false) (fun c e => by cases e) (by rfl) (by go_simp) ?_)
        exact hK _ _ rfl (Below.refl _ _)
    · intro vals vW hB hF
      have h0 := hF 0 (by omega)
      have h1 := hF 1 (by omega)
      have h2 := hF 2 (by omega)
      have h3 := hF 3 (by omega)
      have h4 := hF 4 (by omega)
      have h5 := hF 5 (by omega)
      have h6 := hF 6 (by omega)
      have h7 := hF 7 (by omega)
      have h8 := hF 8 (by omega)
      have h9 := hF 9 (by omega)
      simp only [] at h0 h1 h2 h3 h4 h5 h6 h7 h8 h9
      simp only [frm_cons, frm_nil, List.set_cons_succ, List.set_cons_zero, Nat.reduceAdd, h0, h1, h2, h3, h4, h5, h6, h7, h8, h9]
      refine ⟨by decide +kernel, ?_⟩
      obtain ⟨k1, hk1⟩ : ∃ k1, k1 = k + 1 := ⟨_, rfl⟩
      have HU2 := hid hB.1
      have HKP := hid (hB.2.2.setCell ⟨Ti, 0, none⟩ rfl (.int .i64 (k1 : Int)))
      have HBF := hid (hB.1.base.far (by have := HLS.out; omega) (.int .i64 (k1 : Int)) : BlB w key c (.int .i64 (N : Int)) (vW.setCell ⟨Ti, 0, none⟩ (.int .i64 (k1 : Int))))
      have p1 := hB.1.i.cell 0
      have p2 := hB.1.i.frozen 0
      have p3 := HBF.out.nb.cell 0
      have HNUM := hid hB.1.num
      have ek : (k : Int) + 1 = (k1 : Int) := by omega
      obtain ⟨wk, wk'⟩ := small_wrap k k1 N hk1 HNUM.out HM.out.2.2
      have hck := small_last k k1 N hk1 HNUM.out
      have HK1 := hid hk1
      clear hB hF h0 h1 h2 h3 h4 h5 h6 h7 h8 h9 hk1 hsl wo wo2 wo' wo2' eo eo2 em em2 wm wm2
      by_cases hlast : k = N
      · have c1 := (hck.1 hlast).1.1
        have c2 := (hck.1 hlast).1.2
        have HL1 := hid (hck.1 hlast).2
        clear hlast hck
        gi_wp2
        exact ⟨HKP.out.oth.from _, rfl, HBF.out, by rw [HN1.out, HL1.out]; exact HU2.out.i.put 0 _⟩
      · have c1 := (hck.2 hlast).1.1
        have c2 := (hck.2 hlast).1.2
        have HL1 := hid (hck.2 hlast).2
        clear hlast hck
        gi_wp2
        refine ⟨HKP.out.oth.from _, HKP.out.out, HL1.out, HBF.out, HU2.out.all.far (p := ⟨Ti, 0, none⟩) HTN.out.2 _, HU2.out.sl.far (p := ⟨Ti, 0, none⟩) HTN.out.1 _, ?_⟩
        rw [← HK1.out]
        exact HU2.out.i.put 0 _
  case stop =>
    rintro D' cd W hD ⟨rfl, hA, hB⟩ hK
    have HA := hid hA
    have HB := hid hB
    have HK := hid hK
    have q1 := hB.cell 0
    have q2 := hA.nb.cell 0
    have q3 := hA.res.frozen 0
    have q4 := hA.res.cell 0
    have eN : (N : Int) + 1 = (N1 : Int) := by have := HN1.out; omega
    have wN1 := HWN.out
    have wN2 : IntKind.i64.wrap (N1 : Int) = (N1 : Int) := (IntWalk.i64_left _).trans HWN.out
    clear hA hB hK
    refine wpIn_wide.2 ?_
    go_wp2
    refine ⟨by simp, .inl ⟨_, _, rfl, run_takeDeferred ((Below.heap_setCell W ⟨w.heap.size + 3, 0, none⟩ (.bool true) D' (by have := HLS.out; have := HW9.out; simp; omega)).trans HK.out), ?_⟩⟩
    have hgr := grownBy_putObj' (W.setCell ⟨w.heap.size + 3, 0, none⟩ (.bool true)) D' (.deferred none)
    have hA2 : At ((W.setCell ⟨w.heap.size + 3, 0, none⟩ (.bool true)).putObj D' (.deferred none)) (w.heap.size + 3) #[.bool true] 4 := (hgr.block _ (HA.out.res.put 0 (.bool true)).lt (by have := HLS.out; have := HW9.out; simp; omega)).trans (HA.out.res.put 0 (.bool true))
    have q5 := hA2.cell 0
    refine ⟨_, results_cell_one rfl _ _ ⟨w.heap.size + 3, 0, none⟩ (.bool true) rfl (by clear q1 q2 q3 q4; go_simp), rfl, ?_⟩
    exact (HA.out.below.setCell (by simp) _).grown hgr (by have := HA.out.below.size; simp [World.setCell]; omega) (fun k e => by cases e; have := HLS.out; have := HW9.out; omega)
end Go.Proofs.Ytenlidbgllahhaa
