/-
  Layer 12, the program's side: what trees answer; MakeCut, MakeWrite.
-/
import Derived.Test.YtdegmcfcbndelaaDoorL9
import Derived.Test.YtdegmcfcbndelaaDoorJ1
import Derived.Test.YtdegmcfcbndelaaDoorK9
import Derived.Test.YtdegmcfcbndelaaDoorZ2
namespace Go.Proofs.YtdegmcfcbndelaaDoor
open Go.RowKit Go.Maps

section
variable {W : World} {b B h N : Nat} {mp : Nat → Nat} {g : Nat → Nat → Option (List UInt8)}
set_option maxRecDepth 100000 in
set_option maxHeartbeats 2000000 in
theorem ppath9_room (x : PtM W b B h N mp g) (i : Nat) (hi : hasB h 0 i = true) :
    Calls Tryd.prog 18 #[ptr b, .int .u64 (i : Int)] W fun r W' => ∃ A, r = .returned (.tuple #[.slice A h h, .nilIface]) ∧ Rd W' W'.heap.size A (ubs (pthG (valG g) i h)) ∧ Below W.heap.size W W' ∧ ∀ g o, A = some ⟨g, o, none⟩ → W.heap.size ≤ g := by
  have hi64 : i < 18446744073709551616 := by
    have h1 : i < 2 ^ h := by unfold hasB at hi; simpa using hi
    have := pow_le32 x.hh
    omega
  have hmk : ∀ V : World, (Instr.makeSlice 31 (.int .i64 (h : Int)) (.int .i64 (h : Int))).run Tryd.prog V = .ok (.slice (some ⟨V.heap.size, 0, none⟩) h h) (V.alloc (.cells (ubs (pthTo (valG g) i h 0)).toArray 25)) := fun V => by
    obtain ⟨i0, hi0, hz0, hz1, hz2⟩ := info_parts infoH
    have := run_make (P := Tryd.prog) V 31 25 i0 _ Tryd.underlying31 hi0 hz0 .i64 .i64 h h (by omega) (by omega) (by rw [hz2]; have := x.hh; omega) (by have := x.hh; omega)
    rw [hz1, Int.toNat_natCast, madeH, ← pthTo_zero (valG g) i h] at this
    exact this
  have HLO := hid (fun j (hj : ownS b B h mp j) => x.lt j hj)
  have H0 := hid (show PpW W b B h N mp g i W.heap.size 0 (W.alloc (.cells (ubs (pthTo (valG g) i h 0)).toArray 25)) from ⟨x.new ((Below.refl _ _).alloc (Nat.le_refl _) _), At.new _ _ _, Nat.le_refl _, (Below.refl _ _).alloc (Nat.le_refl _) _⟩)
  have HX := hid x
  have HH := hid x.hh
  have HI := hid hi64
  have HCK := hid (fun (V : World) (q : PtM V b B h N mp g) => show Calls Tryd.prog 59 #[.pointer (some ⟨b, 0, none⟩), .int .i64 0, .int .u64 (i : Int)] V (fun r W' => r = .returned .nilIface ∧ W' = V) from by
    have := pcheck_any q 0 i
    rw [hi] at this
    exact this)
  have HHT := hid (fun (V : World) (q : PtM V b B h N mp g) => show Calls Tryd.prog 62 #[.pointer (some ⟨b, 0, none⟩)] V (fun r W' => r = .returned (.int .i64 (h : Int)) ∧ W' = V) from pheight_any q)
  have HGL := hid x.valLen
  generalize hl0 : ubs (pthTo (valG g) i h 0) = l0 at hmk H0
  clear x hi hi64 hl0
  unfold ptr
  go_enter Tryd.func18, Tryd.ntmps18
  go_wp2_with (first
    | (go_at_call 59; refine (HCK.out _ HX.out).mono ?_; rintro r2 w2 ⟨rfl, hw⟩; rw [hw]; clear hw)
    | (go_at_call 62; refine (HHT.out _ HX.out).mono ?_; rintro r3 w3 ⟨rfl, hw⟩; rw [hw]; clear hw))
  generalize (W.alloc (.cells l0.toArray 25)) = w1 at H0 ⊢
  obtain ⟨D, hD⟩ : ∃ D, D = W.heap.size := ⟨_, rfl⟩
  have HDE := hid hD
  rw [← hD] at H0 ⊢
  clear hmk hD
  go_loopw [20] (fun v wr => ∃ j : Nat, j ≤ h ∧ v = .int .i64 (j : Int) ∧ PpW W b B h N mp g i D j wr) (fun v _ => h - (intOf v).toNat)
  case atStart => exact ⟨0, by omega, rfl, H0.out⟩
  case round =>
    clear H0 HX
    obtain ⟨j, hj, rfl, hX⟩ := hrel
    have HX := hid hX
    clear hX
    by_cases hlt : j < h
    · have hd : decide ((j : Int) < (h : Int)) = true := by simp; omega
      have ik : (j : Int) < (h : Int) := by omega
      obtain ⟨j1, hj1⟩ : ∃ m, m = j + 1 := ⟨_, rfl⟩
      have e2 : (j : Int) + 1 = (j1 : Int) := by omega
      have ew2 : IntKind.i64.wrap (j1 : Int) = (j1 : Int) := by rw [IntKind.wrap_i64] <;> have := HH.out <;> omega
      have hs := shr_u64 23 i j .i64 (by have := HH.out; omega)
      have hsl : i >>> j < 18446744073709551616 := Nat.lt_of_le_of_lt (shr_le i j) HI.out
      have hx := u_xor1 23 (i >>> j) hsl
      have hxl : (i >>> j) ^^^ 1 < 18446744073709551616 := by
        have : (i >>> j) ^^^ 1 < 2 ^ 64 := Nat.xor_lt_two_pow (by omega) (by omega)
        omega
      have HST := hid (fun (V : World) (q : PpW W b B h N mp g i D j V) => q.store hlt (fun k hk => by rw [HDE.out]; exact HLO.out k hk))
      have HTH := hid (fun (V : World) (q : PpW W b B h N mp g i D j V) => q.there hlt)
      have HNL := hid (HGL.out j ((i >>> j) ^^^ 1))
      have HAT := hid (fun (V : World) (q : PtM V b B h N mp g) => show Calls Tryd.prog 60 #[.pointer (some ⟨b, 0, none⟩), .int .i64 (j : Int), .int .u64 (((i >>> j) ^^^ 1 : Nat) : Int)] V (fun r W' => r = .returned (.tuple #[.agg (ubs (valG g j ((i >>> j) ^^^ 1))).toArray, .bool (g j ((i >>> j) ^^^ 1)).isSome]) ∧ Below V.heap.size V W') from pat_any q j _ hj hxl)
      generalize valG g j ((i >>> j) ^^^ 1) = nv at HST HNL HAT
      generalize (g j ((i >>> j) ^^^ 1)).isSome = fb at HAT
      generalize (i >>> j) ^^^ 1 = sb at hx HAT
      generalize i >>> j = s at hs hx
      obtain ⟨o, ho⟩ : ∃ o, o = 32 * j := ⟨_, rfl⟩
      have eo : j * 32 = o := by omega
      rw [← ho] at HST HTH
      have HJL := hid (show j1 ≤ h by omega)
      have HMS := hid (show h - j1 < h - j by omega)
      rw [← hj1] at HST
      clear hj1 hsl hxl ho hlt hj
      go_wp2_with (first
        | (go_at_call 60; refine (HAT.out _ HX.out.t).mono ?_; rintro r4 w4 ⟨rfl, hb4⟩; have X4 := hid (HX.out.new hb4); clear hb4)
        | (refine wpList_store_mid rfl 25 (.tmp 35) (.tmp 33) rfl D o (ubs nv).toArray rfl rfl ?t1 (sizeH_of HNL.out) (ubs_all _) ?_; rotate_right; have X5 := hid (HST.out w4 X4.out); rw [List.toList_toArray]; generalize (w4.setCells D o (ubs nv)) = w5 at X5 ⊢))
      case t1 => have := HTH.out w4 X4.out; simpa [ubs_length, HNL.out] using this
      exact ⟨⟨j1, HJL.out, rfl, X5.out⟩, by
        show h - ((j1 : Int)).toNat < h - ((j : Int)).toNat
        rw [Int.toNat_natCast, Int.toNat_natCast]
        exact HMS.out⟩
    · obtain rfl : j = h := by omega
      have hd : decide ((j : Int) < (j : Int)) = false := by simp
      clear hlt hj
      go_wp2
      go_ret2
      refine ⟨some ⟨D, 0, none⟩, rfl, ?_, HX.out.below, fun g o e => by cases e; exact HX.out.lo⟩
      have := HX.out.r
      rw [pthTo_all] at this
      exact Rd.of_at this 0 (fun q u hu => by rw [List.getElem?_toArray, Nat.zero_add]; exact hu) this.lt
end
/-- What layer 12 asks of trees beside layer 9's answers. -/
structure T12 (Pt : PtT) (w0 : World) : Prop extends T9c Pt w0 where
  pathRoom : ∀ {S W b h L} (i : Nat), Below w0.heap.size w0 W → Pt S W b h L → hasB h 0 i = true →
    Calls Tryd.prog 18 #[ptr b, .int .u64 (i : Int)] W fun r W' => ∃ A, r = .returned (.tuple #[.slice A h h, .nilIface]) ∧ Rd W' W'.heap.size A (ubs (pathS L i h)) ∧ Below W.heap.size W W' ∧ ∀ g o, A = some ⟨g, o, none⟩ → W.heap.size ≤ g
  heightN : ∀ (W : World) (n : Nat), n < 18446744073709551616 →
    Calls Tryd.prog 54 #[.int .u64 (n : Int)] W fun r W' => r = .returned (.tuple #[.int .i64 ((if highOk n then highN n else 0 : Nat) : Int), eB (highOk n)]) ∧ W' = W
  sizeOk : ∀ {S W b h L} (n : Nat), Below w0.heap.size w0 W → Pt S W b h L → L.length ≤ 1000 → highOk n = true → n < 18446744073709551616 →
    Calls Tryd.prog 55 #[ptr b, .int .u64 (n : Int)] W fun r W' => ∃ S' b', r = .returned (.tuple #[ptr b', .nilIface]) ∧ Pt S' W' b' (highN n) (cutS n L) ∧ (∀ k, S' k → W.heap.size ≤ k) ∧ Below W.heap.size W W'
  sizeNo : ∀ {S W b h L} (n : Nat), Pt S W b h L → highOk n = false → n < 18446744073709551616 →
    Calls Tryd.prog 55 #[ptr b, .int .u64 (n : Int)] W fun r W' => r = .returned (.tuple #[.pointer none, errV 1]) ∧ Below W.heap.size W W'
/-- The program's trees answer so. -/
theorem t12 {w0 : World} (hJ : JoinC w0) (hE : EmptiesC w0) : T12 (PtZ w0) w0 where
  toT9c := t9c hJ hE
  pathRoom := fun {S W b h L} i _ p hh => by
    obtain ⟨B, mp, rfl, x, gd, lo⟩ := p
    rw [← pthG_pathS, ← valG_nodeF]
    exact ppath9_room x i hh
  heightN := fun W n hn => pheightN_any n W hn
  sizeOk := fun {S W b h L} n hb p hl hk hn => by
    obtain ⟨B, mp, rfl, x, gd, lo⟩ := p
    have hn1 : n ≤ 4294967296 := by unfold highOk at hk; simp at hk; omega
    obtain ⟨hs1, hs2, -⟩ := highN_spec hn1
    exact (presize9_ok hJ hb gd x hl n hn hk).mono fun r W' ⟨B', mp', b', h1, h2, h3, h4⟩ => ⟨ownS b' B' (highN n) mp', b', h1, ⟨B', mp', rfl, h2, gd.cutS hs2 hs1, fun k hk => Nat.le_trans hb.size (h3 k hk)⟩, h3, h4⟩
  sizeNo := fun {S W b h L} n _ hk hn => (presize9_no b W n hn hk).mono fun r W' ⟨h1, h2⟩ => ⟨h1, by rw [h2]; exact Below.refl _ _⟩
theorem zeroCut12 : (Tryd.prog.info? 83).bind (·.zero) = some (.agg (cutV n32 none 0 0).toArray) := by kernel_rfl
theorem sizeCutO12 : (Tryd.prog.info? 83).map (·.size) = some 33 := by kernel_rfl
theorem sizeCut_of {leaf : List UInt8} {A : Option Addr} {n c : Nat} (h : leaf.length = 32) : (Tryd.prog.info? 83).map (·.size) = some (cutV leaf A n c).toArray.size := by rw [sizeCutO12, List.size_toArray, cutV_length h]
theorem cutV_one (leaf : List UInt8) (A : Option Addr) (n c : Nat) : (cutV leaf A n c).toArray.all (·.oneCell') = true := by
  rw [Array.all_eq_true']
  intro v hv
  rw [List.mem_toArray, cutV, List.mem_append] at hv
  rcases hv with hv | hv
  · exact ubs_one leaf v hv
  · obtain rfl := List.mem_singleton.1 hv
    rfl
theorem run_build_cut0 {o : Oper} {a : Go.Act} {W : World} (ho : o.op = .build 83 #[]) : (execOp a.eval o).run Tryd.prog W = .ok (.value (.agg (cutV n32 none 0 0).toArray)) W :=
  run_build_of _ _ ho _ (by kernel_rfl)
theorem built_cut12 (leaf : List UInt8) (A : Option Addr) (n c : Nat) (hl : leaf.length = 32) : Tryd.prog.built 83 [(0, .agg (ubs leaf).toArray), (1, .slice A n c)] = some (cutV leaf A n c).toArray := by
  obtain ⟨it, hit, hzero⟩ : ∃ it, Tryd.prog.info? 83 = some it ∧ it.zero = some (.agg (cutV n32 none 0 0).toArray) := by
    have hz := zeroCut12
    cases h : Tryd.prog.info? 83 with
    | none => rw [h] at hz; cases hz
    | some it => rw [h] at hz; exact ⟨it, rfl, hz⟩
  obtain ⟨fs, hu, hp⟩ : ∃ fs, Tryd.prog.underlying 83 = some (.struct fs) ∧ fs.toList.mapM (fun f => (Tryd.prog.info? f.type).map fun i => (f.offset, i.size)) = some [(0, 32), (32, 1)] := ⟨_, Tryd.underlying83, by kernel_rfl⟩
  unfold Program.built
  simp only [hit, hu, hzero, hp]
  have s1 : spv (cutV n32 none 0 0) 0 (ubs leaf) = cutV leaf none 0 0 := by
    have := spv_at [] (ubs n32) [Value.slice none 0 0] (ubs leaf) (by simp [ubs_length, n32_length, hl])
    exact this
  have s2 : spv (cutV leaf none 0 0) 32 [.slice A n c] = cutV leaf A n c := by
    have := spv_at (ubs leaf) [Value.slice none 0 0] [] [.slice A n c] rfl
    rw [ubs_length, hl, List.append_nil, List.append_nil] at this
    exact this
  show Instr.fill _ (cutV n32 none 0 0).toArray _ = _
  rw [fill_step _ 0 0 32 (cutV n32 none 0 0) (ubs leaf) _ _ rfl rfl (by rw [ubs_length, hl]) (by rw [cutV_length n32_length]; omega), s1,
    fill_step _ 1 32 1 _ [.slice A n c] _ _ rfl rfl rfl (by rw [cutV_length hl]; omega), s2]
  rfl
theorem run_build_cut12 {o : Oper} {a : Go.Act} {W : World} (x y : Operand) (ho : o.op = .build 83 #[(0, x), (1, y)]) (leaf : List UInt8) (A : Option Addr) (n c : Nat) (hl : leaf.length = 32) (hx : a.eval x = .agg (ubs leaf).toArray) (hy : a.eval y = .slice A n c) : (execOp a.eval o).run Tryd.prog W = .ok (.value (.agg (cutV leaf A n c).toArray)) W :=
  run_build_of _ _ ho _ (by
    rw [← built_cut12 leaf A n c hl]
    simp [hx, hy])
section
variable {Pt : PtT} {w0 : World}
set_option maxRecDepth 100000 in
set_option maxHeartbeats 2000000 in
theorem pleaves_room (t : T9c Pt w0) {S : Nat → Prop} {W : World} {b h : Nat} {L : List (Nat × List UInt8)} (hw0 : Below w0.heap.size w0 W) (hp : Pt S W b h L) (hL : L.length ≤ 1000) (l : List Nat) (A : Option Addr) (c : Nat) (hr : Nu W W.heap.size A l) (hg : rgtB (h : Int) l = true) :
    Calls Tryd.prog 29 #[.pointer (some ⟨b, 0, none⟩), .slice A l.length c] W fun r W' => ∃ A1 c1, r = .returned (.tuple #[.slice A1 l.length c1, .nilIface]) ∧ Rd W' W'.heap.size A1 (ubs (leavesS L l)) ∧ Below W.heap.size W W' ∧ l.length ≤ c1 ∧ ∀ g o, A1 = some ⟨g, o, none⟩ → W.heap.size ≤ g := by
  obtain ⟨hh, hne, hlen, hs, hfit⟩ := rgtB_parts hg
  have hS : ∀ j, S j → j < W.heap.size := fun j hj => (t.inn hp j hj).2
  have ho := (t.good hp).ok
  obtain ⟨n, hn⟩ : ∃ n, n = l.length := ⟨_, rfl⟩
  have HCT := hid (pchecktree_any t hw0 hp l A c hr)
  rw [hg, show eB true = .nilIface from rfl, ← hn] at HCT
  have hmk : ∀ V : World, (Instr.makeSlice 31 (.int .i64 (n : Int)) (.int .i64 (n : Int))).run Tryd.prog V = .ok (.slice (some ⟨V.heap.size, 0, none⟩) n n) (V.alloc (.cells (ubs (lvTo L l 0)).toArray 25)) := fun V => by
    obtain ⟨i0, hi0, hz0, hz1, hz2⟩ := info_parts infoH
    have := run_make (P := Tryd.prog) V 31 25 i0 _ Tryd.underlying31 hi0 hz0 .i64 .i64 n n (by omega) (by omega) (by rw [hz2]; omega) (by omega)
    rw [hz1, Int.toNat_natCast, madeH, hn, ← lvTo_zero L l, ← hn] at this
    exact this
  have HTT := hid t
  have HPT := hid hp
  have HHL := hid hh
  have HN := hid hn
  have HNL := hid hlen
  have HR := hid (fun (V : World) (q : Below W.heap.size W V) => (hr.later q : Nu V V.heap.size A l))
  have HLF := hid (fun (j : Nat) (hj : j < l.length) (V : World) (q : LqW Pt S W b h L l W.heap.size 0 V ∨ True) => hj)
  have HLE := hid (fun (x : Nat) (hx : x ∈ l) (V : World) (hb : Below W.heap.size W V) (hv : Pt S V b h L) => show Calls Tryd.prog 19 #[.pointer (some ⟨b, 0, none⟩), .int .u64 (x : Int)] V (fun r W' => r = .returned (.tuple #[.agg (ubs (nodeS 0 x L)).toArray, .nilIface]) ∧ Below V.heap.size V W') from by
    have h1 : (2 : Nat) ^ h ≤ 4294967296 := pow_le32 hh
    have h2 := hfit x hx
    have := t.leafOk x (hw0.trans (hb.mono hw0.size)) hv hL (by omega)
    rw [show hasB h 0 x = true by unfold hasB; simp; exact h2, if_pos rfl] at this
    exact this)
  have HOK := hid ho
  have HSS := hid hS
  rw [← hn]
  clear hr hg hh hne hlen hs hfit hS hw0 hp hL t hn ho HLF
  go_enter Tryd.func29, Tryd.ntmps29
  go_wp2_with (first
    | (go_at_call 69; refine HCT.out.mono ?_; rintro r1 w1 ⟨rfl, hb1⟩; have HB1 := hid hb1; clear hb1))
  obtain ⟨D, hD⟩ : ∃ D, D = w1.heap.size := ⟨_, rfl⟩
  have H0 := hid (show LqW Pt S W b h L l D 0 (w1.alloc (.cells (ubs (lvTo L l 0)).toArray 25)) from
    ⟨HTT.out.new HPT.out (HB1.out.alloc HB1.out.size _), by rw [hD]; exact At.new _ _ _, by rw [hD]; exact HB1.out.size, HB1.out.alloc HB1.out.size _⟩)
  rw [← hD]
  generalize (w1.alloc (.cells (ubs (lvTo L l 0)).toArray 25)) = w2 at H0 ⊢
  clear hmk hD HB1
  go_loopw [21] (fun v wr => ∃ j : Nat, j ≤ n ∧ v = .int .i64 (j : Int) ∧ LqW Pt S W b h L l D j wr) (fun v _ => n - (intOf v).toNat)
  case atStart => exact ⟨0, by omega, rfl, H0.out⟩
  case round =>
    clear H0
    obtain ⟨j, hj, rfl, hX⟩ := hrel
    have HX := hid hX
    clear hX
    by_cases hlt : j < n
    · have hd : decide ((j : Int) < (n : Int)) = true := by simp; omega
      have ik : (j : Int) < (n : Int) := by omega
      have hjl : j < l.length := by rw [← HN.out]; exact hlt
      obtain ⟨g, o, rfl, -, c0⟩ := (HR.out wr HX.out.below).at hjl
      obtain ⟨x, hx⟩ : ∃ x, x = l[j] := ⟨_, rfl⟩
      rw [← hx] at c0
      obtain ⟨q, hq⟩ : ∃ q, q = o + j := ⟨_, rfl⟩
      rw [← hq] at c0
      have eq := hq.symm
      obtain ⟨j1, hj1⟩ : ∃ m, m = j + 1 := ⟨_, rfl⟩
      have e2 : (j : Int) + 1 = (j1 : Int) := by omega
      have ew2 : IntKind.i64.wrap (j1 : Int) = (j1 : Int) := by rw [IntKind.wrap_i64] <;> have := HNL.out <;> omega
      have HST := hid (fun (V : World) (q : LqW Pt S W b h L l D j V) => q.store HTT.out HOK.out hjl HSS.out)
      have HTH := hid (fun (V : World) (q : LqW Pt S W b h L l D j V) => q.there HOK.out hjl)
      have HLE2 := hid (HLE.out x (by rw [hx]; exact List.getElem_mem _) wr HX.out.below HX.out.t)
      obtain ⟨nv, hnv⟩ : ∃ v, v = nodeS 0 x L := ⟨_, rfl⟩
      have HNV := hid (show nv.length = 32 by rw [hnv]; exact nodeS_length _ _ _ HOK.out)
      rw [← hx, ← hnv] at HST
      rw [← hnv] at HLE2
      obtain ⟨oo, hoo⟩ : ∃ o, o = 32 * j := ⟨_, rfl⟩
      have eo : j * 32 = oo := by omega
      rw [← hoo] at HST HTH
      rw [← hj1] at HST
      have HJL := hid (show j1 ≤ n by omega)
      have HMS := hid (show n - j1 < n - j by omega)
      clear hlt hj hjl hx hq hj1 hnv hoo
      go_wp2_with (first
        | (go_at_call 19; refine HLE2.out.mono ?_; rintro r4 w4 ⟨rfl, hb4⟩; have X4 := hid (HX.out.new HTT.out hb4); clear hb4)
        | (refine wpList_store_mid rfl 25 (.tmp 34) (.tmp 32) rfl D oo (ubs nv).toArray rfl rfl ?t1 (sizeH_of HNV.out) (ubs_all _) ?_; rotate_right; have X5 := hid (HST.out w4 X4.out); rw [List.toList_toArray]; generalize (w4.setCells D oo (ubs nv)) = w5 at X5 ⊢))
      case t1 => have := HTH.out w4 X4.out; simpa [ubs_length, HNV.out] using this
      exact ⟨⟨j1, HJL.out, rfl, X5.out⟩, by
        show n - ((j1 : Int)).toNat < n - ((j : Int)).toNat
        rw [Int.toNat_natCast, Int.toNat_natCast]
        exact HMS.out⟩
    · obtain rfl : j = n := by omega
      have hd : decide ((j : Int) < (j : Int)) = false := by simp
      clear hlt hj
      go_wp2
      go_ret2
      refine ⟨some ⟨D, 0, none⟩, j, rfl, ?_, HX.out.below, Nat.le_refl _, fun g o e => by cases e; exact HX.out.lo⟩
      have := HX.out.r
      rw [HN.out, lvTo_all] at this
      exact Rd.of_at this 0 (fun q u hu => by rw [List.getElem?_toArray, Nat.zero_add]; exact hu) this.lt
set_option maxRecDepth 100000 in
set_option maxHeartbeats 1000000 in
/-- A cutting step of a tree where there is no such index, or no tree. -/
theorem pmakeCut_bad (v : Value) (k : Nat) (hk : k ≠ 0) (i blocks : Nat) (W : World) (hw : IntKind.u64.wrap ((blocks : Int) - 1) = (i : Int)) (hLF : ∀ V : World, Below W.heap.size W V → Calls Tryd.prog 19 #[v, .int .u64 (i : Int)] V (fun r W' => r = .returned (.tuple #[.agg (ubs n32).toArray, errV k]) ∧ Below V.heap.size V W')) :
    Calls Tryd.prog 53 #[v, .int .u64 (blocks : Int)] W fun r W' => r = .returned (.tuple #[.agg (cutV n32 none 0 0).toArray, errV k]) ∧ Below W.heap.size W W' := by
  have e1 : errV k = .iface 42 (.int .i64 (k : Int)) := errV_pos hk
  rw [e1] at hLF ⊢
  have HAC := hid (fun (o : Oper) (a : Go.Act) (W : World) (h : o.op = .alloc 83) => run_alloc_of (o := o) (a := a) (W := W) _ h _ zeroCut12)
  have HAH := hid (fun (o : Oper) (a : Go.Act) (W : World) (h : o.op = .alloc 25) => run_alloc_of (o := o) (a := a) (W := W) _ h _ zeroH8)
  have HNL := hid n32_length
  have HLF := hid hLF
  have B0 := hid ((Below.refl W.heap.size W).alloc (Nat.le_refl _) (.cells (cutV n32 none 0 0).toArray 83))
  have C0 := hid (show At (W.alloc (.cells (cutV n32 none 0 0).toArray 83)) W.heap.size (cutV n32 none 0 0).toArray 83 from At.new _ _ _)
  clear hLF e1 hk
  go_enter Tryd.func53, Tryd.ntmps53
  go_wp2_with (first
    | (refine Great.wpList_allocTo rfl _ rfl _ _ (HAC.out _ _ _ rfl) ?_)
    | (generalize W.alloc (.cells (cutV n32 none 0 0).toArray 83) = W0 at B0 C0 ⊢; go_at_call 19; refine (HLF.out W0 B0.out).mono ?_; rintro r1 w1 ⟨rfl, hb1⟩; have B1 := hid (B0.out.trans (hb1.mono B0.out.size)); have C1 := hid (C0.out.new_ hb1); clear hb1)
    | (refine Great.wpList_allocTo rfl _ rfl _ _ (HAH.out _ _ _ rfl) ?_)
    | (refine wpList_store_row rfl _ (.tmp 6) (.tmp 15) rfl w1.heap.size (ubs n32).toArray rfl rfl 25 (ubs n32).toArray (At.new _ _ _) (sizeH_of HNL.out) (Eq.refl _) (ubs_all _) ?_; have Bx := hid (show Below w1.heap.size w1 ((w1.alloc (.cells (ubs n32).toArray 25)).setRow w1.heap.size (ubs n32).toArray) from below_setRow ((Below.refl _ _).alloc (Nat.le_refl _) _) (Nat.le_refl _) _); have B2 := hid (B1.out.trans (Bx.out.mono B1.out.size)); have C2 := hid (C1.out.new_ Bx.out); clear Bx; generalize ((w1.alloc (.cells (ubs n32).toArray 25)).setRow w1.heap.size (ubs n32).toArray) = w2 at B2 C2 ⊢)
    | (refine wpList_valW (by rfl) (run_build_cut0 rfl) ?_)
    | (refine wpList_store_row rfl _ (.tmp 4) (.tmp 19) rfl W.heap.size (cutV n32 none 0 0).toArray rfl rfl 83 (cutV n32 none 0 0).toArray C2.out (sizeCut_of HNL.out) (Eq.refl _) (cutV_one _ _ _ _) ?_))
  refine bodyPost_ret (results_row_tmp rfl _ _ W.heap.size 83 (cutV n32 none 0 0).toArray (0, 0) _ rfl (setRow_heap _ _ _ _ _ _ C2.out) Tryd.underlying83 rfl (sizeCut_of HNL.out)) rfl ?_
  exact ⟨rfl, below_setRow B2.out (Nat.le_refl _) _⟩
set_option maxRecDepth 100000 in
set_option maxHeartbeats 1000000 in
/-- A cutting step of a tree. -/
theorem pmakeCut_ok (t : T12 Pt w0) {S : Nat → Prop} {W : World} {b h : Nat} {L : List (Nat × List UInt8)} (hw0 : Below w0.heap.size w0 W) (hp : Pt S W b h L) (hL : L.length ≤ 1000) (i blocks : Nat) (hi : i < 18446744073709551616) (hw : IntKind.u64.wrap ((blocks : Int) - 1) = (i : Int)) (hg : hasB h 0 i = true) :
    Calls Tryd.prog 53 #[.pointer (some ⟨b, 0, none⟩), .int .u64 (blocks : Int)] W fun r W' => ∃ A, r = .returned (.tuple #[.agg (cutV (nodeS 0 i L) A h h).toArray, .nilIface]) ∧ Rd W' W'.heap.size A (ubs (pathS L i h)) ∧ Below W.heap.size W W' := by
  have HAC := hid (fun (o : Oper) (a : Go.Act) (W : World) (h : o.op = .alloc 83) => run_alloc_of (o := o) (a := a) (W := W) _ h _ zeroCut12)
  have HAH := hid (fun (o : Oper) (a : Go.Act) (W : World) (h : o.op = .alloc 25) => run_alloc_of (o := o) (a := a) (W := W) _ h _ zeroH8)
  have HNL := hid n32_length
  have HLF := hid (fun (V : World) (q : Below W.heap.size W V) => show Calls Tryd.prog 19 #[.pointer (some ⟨b, 0, none⟩), .int .u64 (i : Int)] V (fun r W' => r = .returned (.tuple #[.agg (ubs (nodeS 0 i L)).toArray, .nilIface]) ∧ Below V.heap.size V W') from by
    have := t.leafOk i (hw0.trans (q.mono hw0.size)) (t.toT9c.new hp q) hL hi
    rw [hg] at this
    exact this)
  have HPT := hid (fun (V : World) (q : Below W.heap.size W V) => show Calls Tryd.prog 18 #[.pointer (some ⟨b, 0, none⟩), .int .u64 (i : Int)] V (fun r W' => ∃ A, r = .returned (.tuple #[.slice A h h, .nilIface]) ∧ Rd W' W'.heap.size A (ubs (pathS L i h)) ∧ Below V.heap.size V W' ∧ ∀ g o, A = some ⟨g, o, none⟩ → V.heap.size ≤ g) from
    t.pathRoom i (hw0.trans (q.mono hw0.size)) (t.toT9c.new hp q) hg)
  have HLL := hid (nodeS_length 0 i L (t.good hp).ok)
  have B0 := hid ((Below.refl W.heap.size W).alloc (Nat.le_refl _) (.cells (cutV n32 none 0 0).toArray 83))
  have C0 := hid (show At (W.alloc (.cells (cutV n32 none 0 0).toArray 83)) W.heap.size (cutV n32 none 0 0).toArray 83 from At.new _ _ _)
  generalize nodeS 0 i L = lf at HLF HLL ⊢
  generalize pathS L i h = ps at HPT ⊢
  clear hw0 hp hL hi hg t
  go_enter Tryd.func53, Tryd.ntmps53
  go_wp2_with (first
    | (refine Great.wpList_allocTo rfl _ rfl _ _ (HAC.out _ _ _ rfl) ?_)
    | (generalize W.alloc (.cells (cutV n32 none 0 0).toArray 83) = W0 at B0 C0 ⊢; go_at_call 19; refine (HLF.out W0 B0.out).mono ?_; rintro r1 w1 ⟨rfl, hb1⟩; have B1 := hid (B0.out.trans (hb1.mono B0.out.size)); have C1 := hid (C0.out.new_ hb1); clear hb1)
    | (refine Great.wpList_allocTo rfl _ rfl _ _ (HAH.out _ _ _ rfl) ?_)
    | (refine wpList_store_row rfl _ (.tmp 6) (.tmp 15) rfl w1.heap.size (ubs lf).toArray rfl rfl 25 (ubs n32).toArray (At.new _ _ _) (sizeH_of HLL.out) (by simp [ubs_length, HNL.out, HLL.out]) (ubs_all _) ?_; have Bx := hid (show Below w1.heap.size w1 ((w1.alloc (.cells (ubs n32).toArray 25)).setRow w1.heap.size (ubs lf).toArray) from below_setRow ((Below.refl _ _).alloc (Nat.le_refl _) _) (Nat.le_refl _) _); have G2 := hid (show At ((w1.alloc (.cells (ubs n32).toArray 25)).setRow w1.heap.size (ubs lf).toArray) w1.heap.size (ubs lf).toArray 25 from setRow_heap _ _ _ _ _ _ (At.new w1 (ubs n32).toArray 25)); have B2 := hid (B1.out.trans (Bx.out.mono B1.out.size)); have C2 := hid (C1.out.new_ Bx.out); clear Bx; generalize ((w1.alloc (.cells (ubs n32).toArray 25)).setRow w1.heap.size (ubs lf).toArray) = w2 at B2 C2 G2 ⊢; generalize w1.heap.size = G at G2 ⊢)
    | (go_at_call 18; refine (HPT.out w2 B2.out).mono ?_; rintro r3 w3 ⟨A3, rfl, hr3, hb3, hn3⟩; have NP := hid (fun q o (e : A3 = some ⟨q, o, none⟩) => show q ≠ W.heap.size from (by have h1 := hn3 q o e; have h2 := C2.out.lt; omega)); have B3 := hid (B2.out.trans (hb3.mono B2.out.size)); have C3 := hid (C2.out.new_ hb3); have G3 := hid (G2.out.new_ hb3); have R3 := hid hr3; clear hb3 hr3 hn3)
    | (refine wpList_valW (by rfl) (run_loadH (.tmp 6) rfl G 0 rfl lf (range_whole G3.out) HLL.out) ?_)
    | (refine wpList_valW (by rfl) (run_build_cut12 (.tmp 28) (.tmp 29) rfl lf A3 h h HLL.out rfl rfl) ?_)
    | (refine wpList_store_row rfl _ (.tmp 4) (.tmp 30) rfl W.heap.size (cutV lf A3 h h).toArray rfl rfl 83 (cutV n32 none 0 0).toArray C3.out (sizeCut_of HLL.out) ?e5 (cutV_one _ _ _ _) ?e6; rotate_right))
  case e5 => rw [List.size_toArray, List.size_toArray, cutV_length n32_length, cutV_length HLL.out]
  refine bodyPost_ret (results_row_tmp rfl _ _ W.heap.size 83 (cutV lf A3 h h).toArray (0, 0) _ rfl (setRow_heap _ _ _ _ _ _ C3.out) Tryd.underlying83 rfl (sizeCut_of HLL.out)) rfl ?_
  refine ⟨A3, rfl, ?_, below_setRow B3.out (Nat.le_refl _) _⟩
  by_cases hps : ps = []
  · subst hps
    exact Rd.nil _ _ _
  · exact Rd.row R3.out NP.out _
/-- Make where there is no tree. -/
theorem pmake10_nil (n : Nat) (A : Option Addr) (c : Nat) (W : World) :
    Calls Tryd.prog 28 #[.pointer none, .slice A n c] W fun r W' => r = .returned (.tuple #[.slice none 0 0, errV 11]) ∧ Below W.heap.size W W' := by
  have e1 : errV 11 = .iface 42 (.int .i64 11) := rfl
  rw [e1]
  have HCT := hid (fun (V : World) => show Calls Tryd.prog 69 #[.pointer none, .slice A n c] V (fun r W' => r = .returned (.iface 42 (.int .i64 11)) ∧ W' = V) from by
    go_enter Tryd.func69, Tryd.ntmps69
    go_wp2
    go_ret
    exact ⟨rfl, rfl⟩)
  have HB := hid ((Below.refl W.heap.size W).alloc (Nat.le_refl _) (.cells #[.pointer none] 29))
  go_enter Tryd.func28, Tryd.ntmps28
  go_wp2_with (first
    | (go_at_call 69; refine (HCT.out _).mono ?_; rintro r2 w2 ⟨rfl, hw⟩; rw [hw]; clear hw))
  go_ret2
  exact ⟨rfl, HB.out⟩
theorem un_lt {W : World} {base n : Nat} {v : Value} {l : List Nat} (h : Un W base v n l) : ∀ k, v.ownBlock = some k → base ≤ k := fun k hk => (World.ownsRow.lt h k hk).1
theorem three_one (A0 A1 A2 : Option Addr) (n0 c0 n1 c1 n2 c2 : Nat) : (#[.slice A0 n0 c0, .slice A1 n1 c1, .slice A2 n2 c2] : Array Value).all (·.oneCell') = true := by simp [Value.oneCell']
theorem zeroWrite12 : (Tryd.prog.info? 72).bind (·.zero) = some (.agg #[.slice none 0 0, .slice none 0 0, .slice none 0 0]) := by kernel_rfl
theorem sizeWriteO12 : (Tryd.prog.info? 72).map (·.size) = some 3 := by kernel_rfl
theorem run_build_write0 {o : Oper} {a : Go.Act} {W : World} (ho : o.op = .build 72 #[]) : (execOp a.eval o).run Tryd.prog W = .ok (.value (.agg #[.slice none 0 0, .slice none 0 0, .slice none 0 0])) W :=
  run_build_of _ _ ho _ (by kernel_rfl)
theorem built_write12 (A0 A1 A2 : Option Addr) (n0 c0 n1 c1 n2 c2 : Nat) : Tryd.prog.built 72 [(0, .slice A0 n0 c0), (1, .slice A1 n1 c1), (2, .slice A2 n2 c2)] = some #[.slice A0 n0 c0, .slice A1 n1 c1, .slice A2 n2 c2] := by kernel_rfl
theorem run_build_write12 {o : Oper} {a : Go.Act} {W : World} (x y z : Operand) (ho : o.op = .build 72 #[(0, x), (1, y), (2, z)]) (A0 A1 A2 : Option Addr) (n0 c0 n1 c1 n2 c2 : Nat) (hx : a.eval x = .slice A0 n0 c0) (hy : a.eval y = .slice A1 n1 c1) (hz : a.eval z = .slice A2 n2 c2) : (execOp a.eval o).run Tryd.prog W = .ok (.value (.agg #[.slice A0 n0 c0, .slice A1 n1 c1, .slice A2 n2 c2])) W :=
  run_build_of _ _ ho _ (by
    rw [← built_write12 A0 A1 A2 n0 c0 n1 c1 n2 c2]
    simp [hx, hy, hz])
set_option maxRecDepth 100000 in
set_option maxHeartbeats 1000000 in
/-- A writing step where Make has an error. -/
theorem pmakeWrite_bad (v : Value) (k : Nat) (hk : k ≠ 0) (A : Option Addr) (n c : Nat) (W : World) (hMK : ∀ V : World, Below W.heap.size W V → Calls Tryd.prog 28 #[v, .slice A n c] V (fun r W' => r = .returned (.tuple #[.slice none 0 0, errV k]) ∧ Below V.heap.size V W')) :
    Calls Tryd.prog 52 #[v, .slice A n c] W fun r W' => r = .returned (.tuple #[.agg #[.slice none 0 0, .slice none 0 0, .slice none 0 0], errV k]) ∧ Below W.heap.size W W' := by
  have e1 : errV k = .iface 42 (.int .i64 (k : Int)) := errV_pos hk
  rw [e1] at hMK ⊢
  obtain ⟨O, hO⟩ : ∃ O : Array Value, O = #[.slice none 0 0, .slice none 0 0, .slice none 0 0] := ⟨_, rfl⟩
  have HAW := hid (fun (o : Oper) (a : Go.Act) (W : World) (h : o.op = .alloc 72) => show (execOp a.eval o).run Tryd.prog W = .ok (.value (.pointer (some ⟨W.heap.size, 0, none⟩))) (W.alloc (.cells O 72)) from by rw [hO]; exact run_alloc_of (o := o) (a := a) (W := W) _ h _ zeroWrite12)
  have HBW := hid (fun (o : Oper) (a : Go.Act) (W : World) (h : o.op = .build 72 #[]) => show (execOp a.eval o).run Tryd.prog W = .ok (.value (.agg O)) W from by rw [hO]; exact run_build_write0 h)
  have HSZ := hid (show (Tryd.prog.info? 72).map (·.size) = some O.size by rw [hO]; exact sizeWriteO12)
  have HOC := hid (show O.all (·.oneCell') = true by rw [hO]; exact three_one _ _ _ _ _ _ _ _ _)
  have HMK := hid hMK
  have B0 := hid ((Below.refl W.heap.size W).alloc (Nat.le_refl _) (.cells O 72))
  have C0 := hid (show At (W.alloc (.cells O 72)) W.heap.size O 72 from At.new _ _ _)
  rw [← hO]
  clear hMK e1 hk hO
  go_enter Tryd.func52, Tryd.ntmps52
  go_wp2_with (first
    | (refine Great.wpList_allocTo rfl _ rfl _ _ (HAW.out _ _ _ rfl) ?_)
    | (generalize W.alloc (.cells O 72) = W0 at B0 C0 ⊢; go_at_call 28; refine (HMK.out W0 B0.out).mono ?_; rintro r1 w1 ⟨rfl, hb1⟩; have B1 := hid (B0.out.trans (hb1.mono B0.out.size)); have C1 := hid (C0.out.new_ hb1); clear hb1)
    | (refine wpList_valW (by rfl) (HBW.out _ _ _ rfl) ?_)
    | (refine wpList_store_row rfl _ (.tmp 4) (.tmp 18) rfl W.heap.size O rfl rfl 72 O C1.out HSZ.out (Eq.refl _) HOC.out ?_))
  refine bodyPost_ret (results_row_tmp rfl _ _ W.heap.size 72 O (0, 0) _ rfl (setRow_heap _ _ _ _ _ _ C1.out) Tryd.underlying72 rfl HSZ.out) rfl ?_
  exact ⟨rfl, below_setRow B1.out (Nat.le_refl _) _⟩
set_option maxRecDepth 100000 in
set_option maxHeartbeats 1000000 in
/-- A tree's writing step. -/
theorem pmakeWrite_ok (t : T9c Pt w0) {S : Nat → Prop} {W : World} {b h : Nat} {L : List (Nat × List UInt8)} (hw0 : Below w0.heap.size w0 W) (hp : Pt S W b h L) (hL : L.length ≤ 1000) (l : List Nat) (A : Option Addr) (c : Nat) (hr : Nu W W.heap.size A l) (hc : l.length ≤ c) (hg : rgtB (h : Int) l = true) :
    Calls Tryd.prog 52 #[.pointer (some ⟨b, 0, none⟩), .slice A l.length c] W fun r W' => ∃ A0 c0 A1 c1 A2 c2, r = .returned (.tuple #[.agg #[.slice A0 l.length c0, .slice A1 l.length c1, .slice A2 (spotsS l h 0).length c2], .nilIface]) ∧ (Nu W' W'.heap.size A0 l ∧ l.length ≤ c0) ∧ (Rd W' W'.heap.size A1 (ubs (leavesS L l)) ∧ l.length ≤ c1) ∧ (Rd W' W'.heap.size A2 (ubs (besideS L (spotsS l h 0))) ∧ (spotsS l h 0).length ≤ c2) ∧ Below W.heap.size W W' := by
  obtain ⟨hh, hne, hlen, hs, hfit⟩ := rgtB_parts hg
  obtain ⟨O, hO⟩ : ∃ O : Array Value, O = #[.slice none 0 0, .slice none 0 0, .slice none 0 0] := ⟨_, rfl⟩
  have HAW := hid (fun (o : Oper) (a : Go.Act) (W : World) (h : o.op = .alloc 72) => show (execOp a.eval o).run Tryd.prog W = .ok (.value (.pointer (some ⟨W.heap.size, 0, none⟩))) (W.alloc (.cells O 72)) from by rw [hO]; exact run_alloc_of (o := o) (a := a) (W := W) _ h _ zeroWrite12)
  have HOS := hid (show O.size = 3 by rw [hO]; rfl)
  have HMK := hid (fun (V : World) (q : Below W.heap.size W V) => pmake10_ok t (hw0.trans (q.mono hw0.size)) (t.new hp q) hL l A c (hr.later q) hc hg)
  have HLV := hid (fun (V : World) (q : Below W.heap.size W V) => pleaves_room t (hw0.trans (q.mono hw0.size)) (t.new hp q) hL l A c (hr.later q) hg)
  have HCL := hid (fun (V : World) (q : Below W.heap.size W V) => pcloneU_any c l A V (by omega) (hr.later q) hne)
  have HSZ := hid sizeWriteO12
  have B0 := hid ((Below.refl W.heap.size W).alloc (Nat.le_refl _) (.cells O 72))
  have C0 := hid (show At (W.alloc (.cells O 72)) W.heap.size O 72 from At.new _ _ _)
  generalize besideS L (spotsS l h 0) = bes at HMK ⊢
  generalize (spotsS l h 0).length = nb at HMK ⊢
  generalize leavesS L l = lvv at HLV ⊢
  obtain ⟨n, hn⟩ : ∃ n, n = l.length := ⟨_, rfl⟩
  rw [← hn] at HMK HLV HCL ⊢
  clear hw0 hp hL hr hc hg hh hne hlen hs hfit hO hn t
  go_enter Tryd.func52, Tryd.ntmps52
  go_wp2_with (first
    | (refine Great.wpList_allocTo rfl _ rfl _ _ (HAW.out _ _ _ rfl) ?_)
    | (generalize W.alloc (.cells O 72) = W0 at B0 C0 ⊢; go_at_call 28; refine (HMK.out W0 B0.out).mono ?_; rintro r1 w1 ⟨A1, c1, rfl, ha1, hb1⟩; have B1 := hid (B0.out.trans (hb1.mono B0.out.size)); have C1 := hid (C0.out.new_ hb1); have R1 := hid ha1.rd; have K1 := hid ha1.cap; have N1 := hid (fun q o (e : A1 = some ⟨q, o, none⟩) => show q ≠ W.heap.size from (by have h1 := (ha1.lt q (by rw [e]; rfl)).1; have h2 := C0.out.lt; omega)); clear hb1 ha1)
    | (go_at_call 29; refine (HLV.out w1 B1.out).mono ?_; rintro r2 w2 ⟨A2, c2, rfl, hr2, hb2, hc2, hn2⟩; have N2 := hid (fun q o (e : A2 = some ⟨q, o, none⟩) => show q ≠ W.heap.size from (by have h1 := hn2 q o e; have h2 := C1.out.lt; omega)); have B2 := hid (B1.out.trans (hb2.mono B1.out.size)); have C2 := hid (C1.out.new_ hb2); have R2 := hid (show Rd w2 w2.heap.size A1 (ubs bes) from (Rd.below R1.out hb2).mono hb2.size); have S2 := hid hr2; have K2 := hid hc2; clear hb2 hr2 hc2 hn2)
    | (go_at_call 88; refine (HCL.out w2 B2.out).mono ?_; rintro r3 w3 ⟨A3, c3, rfl, ha3, hb3⟩; have B3 := hid (B2.out.trans (hb3.mono B2.out.size)); have C3 := hid (C2.out.new_ hb3); have R3 := hid (show Rd w3 w3.heap.size A1 (ubs bes) from (Rd.below R2.out hb3).mono hb3.size); have S3 := hid (show Rd w3 w3.heap.size A2 (ubs lvv) from (Rd.below S2.out hb3).mono hb3.size); have T3 := hid ha3.rd; have K3 := hid ha3.cap; have N3 := hid (fun q o (e : A3 = some ⟨q, o, none⟩) => show q ≠ W.heap.size from (by have h1 := un_lt ha3 q (by rw [e]; rfl); have h2 := C2.out.lt; omega)); clear hb3 ha3)
    | (refine wpList_valW (by rfl) (run_build_write12 (.tmp 27) (.tmp 28) (.tmp 29) rfl A3 A2 A1 n c3 n c2 nb c1 rfl rfl rfl) ?_; generalize hO3 : (#[.slice A3 n c3, .slice A2 n c2, .slice A1 nb c1] : Array Value) = O3; have HO3 := hid hO3.symm; have HS3 := hid (show O3.size = 3 by rw [← hO3]; rfl); have HC3 := hid (show O3.all (·.oneCell') = true by rw [← hO3]; exact three_one _ _ _ _ _ _ _ _ _); clear hO3)
    | (refine wpList_store_row rfl _ (.tmp 4) (.tmp 30) rfl W.heap.size O3 rfl rfl 72 O C3.out (by rw [HS3.out]; exact HSZ.out) (by rw [HS3.out]; exact HOS.out) HC3.out ?_))
  refine bodyPost_ret (results_row_tmp rfl _ _ W.heap.size 72 O3 (0, 0) _ rfl (setRow_heap _ _ _ _ _ _ C3.out) Tryd.underlying72 rfl (by rw [HS3.out]; exact HSZ.out)) rfl ?_
  exact ⟨A3, c3, A2, c2, A1, c1, by rw [HO3.out]; rfl, ⟨Rd.row T3.out N3.out _, K3.out⟩, ⟨Rd.row S3.out N2.out _, K2.out⟩, ⟨Rd.row R3.out N1.out _, K1.out⟩, below_setRow B3.out (Nat.le_refl _) _⟩
end
end Go.Proofs.YtdegmcfcbndelaaDoor
