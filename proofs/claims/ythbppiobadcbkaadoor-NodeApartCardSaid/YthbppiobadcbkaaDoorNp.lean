/-
  NodeApart, walked.
-/
import Derived.Test.YthbppiobadcbkaaDoorNl0
import Derived.Test.YthbppiobadcbkaaDoorIe
namespace Go.Proofs.YthbppiobadcbkaaDoor
open Go.RowKit

theorem run_conv_str {o : Oper} {a : Go.Act} {W : World} (x : Operand) (ho : o.op = .convert 34 9 x) (l : List UInt8) (s : ByteArray) (A : Option Addr) (n c : Nat) (hx : a.eval x = .slice A n c) (hs : s = ⟨l.toArray⟩) (hn : n = l.length) (hr : Rb W W.heap.size A l) :
    (execOp a.eval o).run Tryd.prog W = .ok (.value (.string s)) W := by
  subst hs hn
  unfold execOp
  simp only [ho, hx, Sem.run_bind, run_convert_rb (P := Tryd.prog) 34 9 5 Tryd.underlying34 Tryd.underlying5 Tryd.underlying9 hr c, Result.andThen_ok]
  rfl
theorem beq_cast0 (e f : Nat) : ((e : Int) == (f : Int)) = (e == f) := by
  by_cases h : e = f
  · simp [h]
  · rw [beq_eq_false_iff_ne.2 h, beq_eq_false_iff_ne.2 (by omega)]
theorem run_loadPsAt {o : Oper} {a : Go.Act} {W : World} (x : Operand) (ho : o.op = .load 27 x) (b off : Nat) (hx : a.eval x = .pointer (some ⟨b, off, none⟩)) (l : List Value) (hc : W.rangeAt b off l) (hl : l.length = 49) : (execOp a.eval o).run Tryd.prog W = .ok (.value (.agg l.toArray)) W :=
  run_load_part _ x ho b off hx l _ hc Tryd.underlying27 rfl (by rw [sizePs, hl])
/-- What holds in the law: the indices, the sealed blocks, the heights; hashes and texts of the call's own. -/
structure NpW (w : World) (i j : Nat) (xs : List Value) (m n : Int) (LH : List (Nat × List UInt8)) (LT : List (Option Addr × List UInt8)) (W : World) : Prop where
  a : At W w.heap.size #[.int .u64 (i : Int), .int .u64 (j : Int)] 58
  x : At W (w.heap.size + 1) xs.toArray 59
  h : At W (w.heap.size + 1 + 1) #[.int .i64 m, .int .i64 n] 60
  hs : ∀ q ∈ LH, At W q.1 (ubs q.2).toArray 29
  ts : ∀ q ∈ LT, Rb W W.heap.size q.1 q.2
  below : Below w.heap.size w W
section
variable {w W W' : World} {i j : Nat} {xs : List Value} {m n : Int} {LH : List (Nat × List UInt8)} {LT : List (Option Addr × List UInt8)}
theorem NpW.new (h : NpW w i j xs m n LH LT W) (hb : Below W.heap.size W W') : NpW w i j xs m n LH LT W' := ⟨h.a.new_ hb, h.x.new_ hb, h.h.new_ hb, fun q hq => (h.hs q hq).new_ hb, fun q hq => ((h.ts q hq).below hb).mono hb.size, h.below.trans (hb.mono h.below.size)⟩
theorem NpW.drew (h : NpW w i j xs m n LH LT W) : NpW w i j xs m n LH LT W.drew := ⟨h.a, h.x, h.h, h.hs, h.ts, h.below.drew⟩
theorem NpW.start (w : World) (i j : Nat) (xs : List Value) (m n : Int) : NpW w i j xs m n [] [] (((w.alloc (.cells #[.int .u64 (i : Int), .int .u64 (j : Int)] 58)).alloc (.cells xs.toArray 59)).alloc (.cells #[.int .i64 m, .int .i64 n] 60)) :=
  ⟨((At.new _ _ _).alloc _).alloc _, (At.new_at (by simp)).alloc _, At.new_at (by simp), (fun _ h => nomatch h), (fun _ h => nomatch h), (((Below.refl w.heap.size w).alloc (Nat.le_refl _) _).alloc (by simp) _).alloc (by simp; omega) _⟩
theorem NpW.text (h : NpW w i j xs m n LH LT W) (hb : Below W.heap.size W W') {A : Option Addr} {l : List UInt8} (hr : Rb W' W'.heap.size A l) : NpW w i j xs m n LH ((A, l) :: LT) W' :=
  have k := h.new hb
  ⟨k.a, k.x, k.h, k.hs, fun q hq => (List.mem_cons.1 hq).elim (fun e => e ▸ hr) (fun hq => k.ts q hq), k.below⟩
theorem NpW.big (h : NpW w i j xs m n LH LT W) : w.heap.size + 3 ≤ W.heap.size := by have := h.h.lt; omega
theorem NpW.q0 (h : NpW w i j xs m n LH LT W) : W.cell? ⟨w.heap.size, 0, none⟩ = some (.int .u64 (i : Int)) := by rw [h.a.cell]; rfl
theorem NpW.q1 (h : NpW w i j xs m n LH LT W) : W.cell? ⟨w.heap.size, 1, none⟩ = some (.int .u64 (j : Int)) := by rw [h.a.cell]; rfl
theorem NpW.n0 (h : NpW w i j xs m n LH LT W) : W.cell? ⟨w.heap.size + 1 + 1, 0, none⟩ = some (.int .i64 m) := by rw [h.h.cell]; rfl
theorem NpW.n1 (h : NpW w i j xs m n LH LT W) : W.cell? ⟨w.heap.size + 1 + 1, 1, none⟩ = some (.int .i64 n) := by rw [h.h.cell]; rfl
/-- Two new rows of noughts are filled, one behind the other. -/
theorem NpW.fill {V : World} {X Y : Nat} (h : NpW w i j xs m n [] LT V) (hb : Below V.heap.size V W) (hX : At W X (ubs n32).toArray 29) (hY : At W Y (ubs n32).toArray 29) (hXY : X ≠ Y) (gX : V.heap.size ≤ X) (gY : V.heap.size ≤ Y) (d d' : List UInt8) :
    NpW w i j xs m n [(X, d), (Y, d')] LT ((W.setRow X (ubs d).toArray).setRow Y (ubs d').toArray) :=
  have k := h.new (below_setRow (below_setRow hb gX (ubs d).toArray) gY (ubs d').toArray)
  have hX1 : At (W.setRow X (ubs d).toArray) X (ubs d).toArray 29 := setRow_heap _ _ (ubs n32).toArray _ _ _ hX
  have hY1 : At (W.setRow X (ubs d).toArray) Y (ubs n32).toArray 29 := hY.setRow_far (Ne.symm hXY)
  ⟨k.a, k.x, k.h, fun q hq => (List.mem_cons.1 hq).elim (fun e => e ▸ hX1.setRow_far hXY) (fun hq => (show q = (Y, d') by simpa using hq) ▸ setRow_heap _ _ (ubs n32).toArray _ _ _ hY1), k.ts, k.below⟩
end
/-- What a comparing region yields: the errors; the texts; the first parts; the second parts. -/
def npF (E0 E1 : Value) (e0 e1 p s : Bool) (tA tB : Value) (x0 x1 : ByteArray) (P0 V0 P1 V1 : Value) (L : List Value) (q : Bool) (k : Nat) : Value :=
  match k with
  | 0 => E0
  | 1 => .bool e0
  | 2 => .bool e0
  | 3 => bif e0 then E1 else undef
  | 4 => bif e0 then .bool e1 else undef
  | 5 => .bool (e0 && e1)
  | 6 => .bool (e0 && e1)
  | 7 => bif (e0 && e1) then tA else undef
  | 8 => bif (e0 && e1) then .string x0 else undef
  | 9 => bif (e0 && e1) then tB else undef
  | 10 => bif (e0 && e1) then .string x1 else undef
  | 11 => bif (e0 && e1) then .bool q else undef
  | 12 => bif (e0 && e1) then P0 else undef
  | 13 => bif (e0 && e1) then V0 else undef
  | 14 => bif (e0 && e1) then P1 else undef
  | 15 => bif (e0 && e1) then V1 else undef
  | 16 => bif (e0 && e1) then .bool p else undef
  | 17 => bif (e0 && e1) then .bool p else undef
  | k + 18 => if k < L.length then (bif (e0 && (e1 && p)) then L.getD k undef else undef) else if k = L.length then (bif (e0 && e1) then .bool (p && s) else undef) else if k = L.length + 1 then (bif (e0 && e1) then .bool false else undef) else .bool false
set_option maxRecDepth 100000 in
set_option maxHeartbeats 8000000 in
theorem nodeApart_law (d t d' t' : List UInt8) (i e j f : Nat) (m n : Int) (w : World) (hd : d.length = 32) (ht : t.length = 16) (hd' : d'.length = 32) (ht' : t'.length = 16) (hi : i < 18446744073709551616) (he : e < 18446744073709551616) (hj : j < 18446744073709551616) (hf : f < 18446744073709551616)
    (m1 : -9223372036854775808 ≤ m) (m2 : m < 9223372036854775808) (n1 : -9223372036854775808 ≤ n) (n2 : n < 9223372036854775808) (hAL : Alive8C w) (hLT : LeafTextC w) (hJT : JoinTextC w) (hKI : KindC w) :
    Calls Tryd.prog 6 #[.agg #[.int .u64 (i : Int), .int .u64 (j : Int)], .agg (sv e d t ++ sv f d' t').toArray, .agg #[.int .i64 m, .int .i64 n]] w fun r w' => r = .returned (.bool true) ∧ Below w.heap.size w w' := by
  have HAL := hid hAL
  have H0 := hid (NpW.start w i j (sv e d t ++ sv f d' t') m n)
  have HA0 := hid (fun (W : World) (h : Below w.heap.size w W) => show Calls Tryd.prog 9 #[.int .u64 (i : Int), .agg (sv e d t).toArray] W (fun r w' => ∃ A c, r = .returned (.tuple #[.slice A (lfT i e d t).length c, errV (if ixB i then 0 else 1)]) ∧ Rb w' w'.heap.size A (lfT i e d t) ∧ Below W.heap.size W w') from by
    refine (hLT W i e d t h hi he hd ht).mono ?_
    rintro r w' ⟨A, k, c, e1, rfl, e3, e4⟩
    exact ⟨A, c, e1, e3, e4⟩)
  have HA1 := hid (fun (W : World) (h : Below w.heap.size w W) => show Calls Tryd.prog 9 #[.int .u64 (j : Int), .agg (sv f d' t').toArray] W (fun r w' => ∃ A c, r = .returned (.tuple #[.slice A (lfT j f d' t').length c, errV (if ixB j then 0 else 1)]) ∧ Rb w' w'.heap.size A (lfT j f d' t') ∧ Below W.heap.size W w') from by
    refine (hLT W j f d' t' h hj hf hd' ht').mono ?_
    rintro r w' ⟨A, k, c, e1, rfl, e3, e4⟩
    exact ⟨A, c, e1, e3, e4⟩)
  have HA2 := hid (fun (W : World) (h : Below w.heap.size w W) => show Calls Tryd.prog 17 #[.int .i64 m, .agg (ubs d).toArray, .agg (ubs d').toArray] W (fun r w' => ∃ A c, r = .returned (.tuple #[.slice A (jnT m d d').length c, errV (if htB m then 0 else 1)]) ∧ Rb w' w'.heap.size A (jnT m d d') ∧ Below W.heap.size W w') from by
    refine (hJT W m d d' h m1 m2 hd hd').mono ?_
    rintro r w' ⟨A, k, c, e1, rfl, e3, e4⟩
    exact ⟨A, c, e1, e3, e4⟩)
  have HA3 := hid (fun (W : World) (h : Below w.heap.size w W) => show Calls Tryd.prog 17 #[.int .i64 n, .agg (ubs d').toArray, .agg (ubs d).toArray] W (fun r w' => ∃ A c, r = .returned (.tuple #[.slice A (jnT n d' d).length c, errV (if htB n then 0 else 1)]) ∧ Rb w' w'.heap.size A (jnT n d' d) ∧ Below W.heap.size W w') from by
    refine (hJT W n d' d h n1 n2 hd' hd).mono ?_
    rintro r w' ⟨A, k, c, e1, rfl, e3, e4⟩
    exact ⟨A, c, e1, e3, e4⟩)
  have HK0 := hid (fun (W : World) (A : Option Addr) (c : Nat) (h : Below w.heap.size w W) (r : Rb W W.heap.size A (lfT i e d t)) => hKI W (lfT i e d t) A c h r (by unfold lfT; split <;> first | (rw [leafT_length i e d t hd ht]; omega) | simp))
  have HK2 := hid (fun (W : World) (A : Option Addr) (c : Nat) (h : Below w.heap.size w W) (r : Rb W W.heap.size A (jnT m d d')) => hKI W (jnT m d d') A c h r (by unfold jnT; split <;> first | (rw [joinT_length _ d d' hd hd']; omega) | simp))
  have HQ := hid (show ixB i = true → ixB j = true → (lfT i e d t == lfT j f d' t') = ((i == j) && (e == f && d == d' && t == t')) from by
    intro h1 h2
    have k1 : lfT i e d t = leafT i e d t := by unfold lfT; rw [h1]; rfl
    have k2 : lfT j f d' t' = leafT j f d' t' := by unfold lfT; rw [h2]; rfl
    rw [k1, k2]
    by_cases c : leafT i e d t = leafT j f d' t'
    · obtain ⟨rfl, rfl, rfl, rfl⟩ := leafT_inj (of_decide_eq_true h1) (of_decide_eq_true h2) he hf hd hd' c
      simp
    · rw [beq_eq_false_iff_ne.2 c]
      refine Eq.symm (Bool.eq_false_iff.2 fun q => c ?_)
      simp at q
      obtain ⟨rfl, ⟨rfl, rfl⟩, rfl⟩ := q
      rfl)
  have HQ2 := hid (show htB m = true → htB n = true → (jnT m d d' == jnT n d' d) = ((m == n) && (d == d')) from by
    intro h1 h2
    have k1 : jnT m d d' = joinT m.toNat d d' := by unfold jnT; rw [h1]; rfl
    have k2 : jnT n d' d = joinT n.toNat d' d := by unfold jnT; rw [h2]; rfl
    have b1 : 1 ≤ m ∧ m ≤ 32 := by unfold htB at h1; simpa using h1
    have b2 : 1 ≤ n ∧ n ≤ 32 := by unfold htB at h2; simpa using h2
    rw [k1, k2]
    by_cases c : joinT m.toNat d d' = joinT n.toNat d' d
    · obtain ⟨c1, rfl, -⟩ := joinT_inj (by omega) (by omega) hd hd' c
      obtain rfl : m = n := by omega
      simp
    · rw [beq_eq_false_iff_ne.2 c]
      refine Eq.symm (Bool.eq_false_iff.2 fun q => c ?_)
      simp at q
      obtain ⟨rfl, rfl⟩ := q
      rfl)
  have HN := hid (show ixB i = true → htB m = true → (lfT i e d t == jnT m d d') = false ∧ kindN (lfT i e d t) = 2 ∧ kindN (jnT m d d') = 3 from by
    intro h1 h2
    have k1 : lfT i e d t = leafT i e d t := by unfold lfT; rw [h1]; rfl
    have k2 : jnT m d d' = joinT m.toNat d d' := by unfold jnT; rw [h2]; rfl
    have b1 : 1 ≤ m ∧ m ≤ 32 := by unfold htB at h2; simpa using h2
    rw [k1, k2]
    refine ⟨beq_eq_false_iff_ne.2 fun c => ?_, kind_leaf i e d t hd ht, kind_join _ d d' hd hd' (by omega) (by omega)⟩
    have := congrArg List.length c
    rw [leafT_length i e d t hd ht, joinT_length _ d d' hd hd'] at this
    omega)
  have HE0 := hid (isE_errV (ixB i))
  have HE1 := hid (isE_errV (ixB j))
  have HE2 := hid (isE_errV (htB m))
  have HE3 := hid (isE_errV (htB n))
  generalize errV (if ixB i = true then 0 else 1) = E0 at HA0 HE0
  generalize errV (if ixB j = true then 0 else 1) = E1 at HA1 HE1
  generalize errV (if htB m = true then 0 else 1) = E2 at HA2 HE2
  generalize errV (if htB n = true then 0 else 1) = E3 at HA3 HE3
  generalize ixB i = e0 at HQ HN HE0
  generalize ixB j = e1 at HQ HE1
  generalize htB m = g2 at HQ2 HN HE2
  generalize htB n = g3 at HQ2 HE3
  generalize lfT i e d t = a0 at HA0 HK0 HQ HN
  generalize lfT j f d' t' = a1 at HA1 HQ
  generalize jnT m d d' = a2 at HA2 HK2 HQ2 HN
  generalize jnT n d' d = a3 at HA3 HQ2
  obtain ⟨l0, hl0⟩ : ∃ k, k = a0.length := ⟨_, rfl⟩
  obtain ⟨l1, hl1⟩ : ∃ k, k = a1.length := ⟨_, rfl⟩
  obtain ⟨l2, hl2⟩ : ∃ k, k = a2.length := ⟨_, rfl⟩
  obtain ⟨l3, hl3⟩ : ∃ k, k = a3.length := ⟨_, rfl⟩
  rw [← hl0] at HA0 HK0
  rw [← hl1] at HA1
  rw [← hl2] at HA2 HK2
  rw [← hl3] at HA3
  have HL0 := hid hl0
  have HL1 := hid hl1
  have HL2 := hid hl2
  have HL3 := hid hl3
  obtain ⟨x0, hx0⟩ : ∃ x : ByteArray, x = ⟨a0.toArray⟩ := ⟨_, rfl⟩
  obtain ⟨x1, hx1⟩ : ∃ x : ByteArray, x = ⟨a1.toArray⟩ := ⟨_, rfl⟩
  obtain ⟨x2, hx2⟩ : ∃ x : ByteArray, x = ⟨a2.toArray⟩ := ⟨_, rfl⟩
  obtain ⟨x3, hx3⟩ : ∃ x : ByteArray, x = ⟨a3.toArray⟩ := ⟨_, rfl⟩
  have S01 := hid (show (x0.toList == x1.toList) = (a0 == a1) by rw [hx0, hx1]; exact str_eq a0 a1)
  have S23 := hid (show (x2.toList == x3.toList) = (a2 == a3) by rw [hx2, hx3]; exact str_eq a2 a3)
  have S02 := hid (show (x0.toList == x2.toList) = (a0 == a2) by rw [hx0, hx2]; exact str_eq a0 a2)
  have X0 := hid hx0
  have X1 := hid hx1
  have X2 := hid hx2
  have X3 := hid hx3
  have HXA := hid (sv_length e d t hd ht)
  have HXB := hid (sv_length f d' t' hd' ht')
  have HDL := hid hd
  have HDL' := hid hd'
  have HTL := hid ht
  have HTL' := hid ht'
  have R0 := hid (fun (W : World) (h : At W (w.heap.size + 1) (sv e d t ++ sv f d' t').toArray 59) => show W.rangeAt (w.heap.size + 1) 0 (sv e d t) from range_vals (a := []) (m := sv e d t) (z := sv f d' t') h rfl)
  have R1 := hid (fun (W : World) (h : At W (w.heap.size + 1) (sv e d t ++ sv f d' t').toArray 59) => show W.rangeAt (w.heap.size + 1) 49 (sv f d' t') from by
    have := range_vals (a := sv e d t) (m := sv f d' t') (z := []) h (by simp)
    rwa [HXA.out] at this)
  have D0 := hid (fun (W : World) (h : At W (w.heap.size + 1) (sv e d t ++ sv f d' t').toArray 59) => show W.rangeAt (w.heap.size + 1) 1 (ubs d) from
    range_vals (a := [.int .u64 (e : Int)]) (m := ubs d) (z := ubs t ++ sv f d' t') h (by simp [sv]))
  have D1 := hid (fun (W : World) (h : At W (w.heap.size + 1) (sv e d t ++ sv f d' t').toArray 59) => show W.rangeAt (w.heap.size + 1) 50 (ubs d') from by
    have := range_vals (a := sv e d t ++ [.int .u64 (f : Int)]) (m := ubs d') (z := ubs t') h (by simp [sv])
    rwa [List.length_append, HXA.out] at this)
  have PIJ := hid (beq_cast0 i j)
  have HAH := hid (fun (o : Oper) (a : Go.Act) (W : World) (h : o.op = .alloc 29) => run_alloc_of (o := o) (a := a) (W := W) _ h _ zeroH8)
  obtain ⟨xs, hxs⟩ : ∃ l, l = sv e d t ++ sv f d' t' := ⟨_, rfl⟩
  rw [← hxs] at H0 R0 R1 D0 D1 ⊢
  obtain ⟨u0, hu0⟩ : ∃ l, l = sv e d t := ⟨_, rfl⟩
  obtain ⟨u1, hu1⟩ : ∃ l, l = sv f d' t' := ⟨_, rfl⟩
  rw [← hu0] at HA0 HXA R0
  rw [← hu1] at HA1 HXB R1
  have U0 := hid hu0
  have U1 := hid hu1
  obtain ⟨p, hp⟩ : ∃ p, p = (i == j) := ⟨_, rfl⟩
  rw [← hp] at HQ PIJ
  obtain ⟨s, hs⟩ : ∃ s, s = (e == f && d == d' && t == t') := ⟨_, rfl⟩
  rw [← hs] at HQ
  have HS := hid hs
  obtain ⟨p2, hp2⟩ : ∃ p, p = (m == n) := ⟨_, rfl⟩
  rw [← hp2] at HQ2
  have HP2 := hid hp2
  obtain ⟨s2, hs2⟩ : ∃ s, s = (d == d') := ⟨_, rfl⟩
  rw [← hs2] at HQ2
  have HS2 := hid hs2
  clear hAL hLT hJT hKI hd ht hd' ht' hi he hj hf m1 m2 n1 n2 hl0 hl1 hl2 hl3 hx0 hx1 hx2 hx3 hxs hu0 hu1 hp hs hp2 hs2
  go_enter Tryd.func6, Tryd.ntmps6
  go_wp2_with (first
    | (go_at_call 7; refine (HAL.out _ H0.out.below).mono ?_; rintro r1 w1 ⟨rfl, hb1⟩; have H1 := hid (H0.out.new hb1); clear hb1; have q0 := H1.out.q0)
    | (refine wpList_valW (by rfl) (run_loadPsAt (.tmp 22) rfl (w.heap.size + 1) 0 rfl u0 (R0.out _ H1.out.x) HXA.out) ?_)
    | (go_at_call 9; (with_reducible refine (HA0.out w1 H1.out.below).mono ?_); rintro r2 w2 ⟨A, cA, rfl, hr2, hb2⟩; have H2 := hid (H1.out.text hb2 hr2); clear hb2 hr2 q0; have q1 := H2.out.q1)
    | (refine wpList_valW (by rfl) (run_loadPsAt (.tmp 30) rfl (w.heap.size + 1) 49 rfl u1 (R1.out _ H2.out.x) HXB.out) ?_)
    | (go_at_call 9; (with_reducible refine (HA1.out w2 H2.out.below).mono ?_); rintro r3 w3 ⟨B, cB, rfl, hr3, hb3⟩; have H3 := hid (H2.out.text hb3 hr3); clear hb3 hr3 q1))
  clear H0 H1 H2
  try simp only [Act.put, List.setIfInBounds_toArray, List.set_cons_succ, List.set_cons_zero]
  refine wp_region_facts 26 26 [35, 36, 37, 38, 39, 40, 41, 42, 43, 44, 45, 46, 47, 48, 49, 50, 51, 52, 53, 54, 55, 56, 57, 58, 59, 60] (fun k v _ => v = npF (E0) (E1) e0 e1 p s (.slice A l0 cA) (.slice B l1 cB) x0 x1 (.pointer (some ⟨w.heap.size, 0, none⟩)) (.int .u64 (i : Int)) (.pointer (some ⟨w.heap.size, 1, none⟩)) (.int .u64 (j : Int)) [.pointer (some ⟨w.heap.size + 1, 0, none⟩), .agg u0.toArray, .pointer (some ⟨w.heap.size + 1, 49, none⟩), .agg u1.toArray, .bool s] (a0 == a1) k) (NpW w i j xs m n [] [(B, a1), (A, a0)]) (by kernel_rfl) (by kernel_rfl)
    (fun W W' h hb => h.new hb) (fun _ _ _ _ h _ => h) (H3.out.drew) ?_ ?_
  · intro i hi vals W K hB hn hK
    simp only [frm_cons, frm_nil, List.set_cons_succ, List.set_cons_zero, Nat.reduceAdd] at hK ⊢
    rcases (by omega : i = 0 ∨ i = 1 ∨ i = 2 ∨ i = 3 ∨ i = 4 ∨ i = 5 ∨ i = 6 ∨ i = 7 ∨ i = 8 ∨ i = 9 ∨ i = 10 ∨ i = 11 ∨ i = 12 ∨ i = 13 ∨ i = 14 ∨ i = 15 ∨ i = 16 ∨ i = 17 ∨ i = 18 ∨ i = 19 ∨ i = 20 ∨ i = 21 ∨ i = 22 ∨ i = 23 ∨ i = 24 ∨ i = 25) with rfl | rfl | rfl | rfl | rfl | rfl | rfl | rfl | rfl | rfl | rfl | rfl | rfl | rfl | rfl | rfl | rfl | rfl | rfl | rfl | rfl | rfl | rfl | rfl | rfl | rfl
    · refine wpOp_plain rfl rfl (wp_val (w' := W) (v := E0) (by go_simp) ?_)
      exact hK _ _ rfl (Below.refl _ _)
    · have h0 := hn 0 (by decide +kernel)
      simp only [npF] at h0
      simp only [h0] at hK ⊢
      refine wpOp_plain rfl rfl (wp_val (run_eqlE _ 35 rfl E0 e0 rfl HE0.out W) ?_)
      exact hK _ _ rfl (Below.refl _ _)
    · have h1 := hn 1 (by decide +kernel)
      simp only [npF] at h1
      simp only [h1] at hK ⊢
      refine wpOp_plain rfl rfl (wp_val (w' := W) (v := .bool e0) (by go_simp) ?_)
      exact hK _ _ rfl (Below.refl _ _)
    · have h2 := hn 2 (by decide +kernel)
      simp only [npF] at h2
      simp only [h2] at hK ⊢
      cases e0 with
      | false =>
        refine wpOp_off rfl (by rfl) ?_
        exact hK _ _ rfl (Below.refl _ _)
      | true =>
        refine wpOp_on rfl (by rfl) (wp_val (w' := W) (v := E1) (by go_simp) ?_)
        exact hK _ _ rfl (Below.refl _ _)
    · have h2 := hn 2 (by decide +kernel)
      simp only [npF] at h2
      simp only [h2] at hK ⊢
      cases e0 with
      | false =>
        refine wpOp_off rfl (by rfl) ?_
        exact hK _ _ rfl (Below.refl _ _)
      | true =>
        have h3 : vals 3 = E1 := hn 3 (by decide +kernel)
        simp only [h3] at hK ⊢
        refine wpOp_on rfl (by rfl) (wp_val (run_eqlE _ 38 rfl E1 e1 rfl HE1.out W) ?_)
        exact hK _ _ rfl (Below.refl _ _)
    · have h2 := hn 2 (by decide +kernel)
      simp only [npF] at h2
      simp only [h2] at hK ⊢
      cases e0 with
      | false =>
        refine wpOp_plain rfl rfl (wp_val (w' := W) (v := .bool false) (by go_simp) ?_)
        exact hK _ _ rfl (Below.refl _ _)
      | true =>
        have h4 : vals 4 = .bool e1 := hn 4 (by decide +kernel)
        simp only [h4] at hK ⊢
        refine wpOp_plain rfl rfl (wp_val (w' := W) (v := .bool e1) (by go_simp) ?_)
        exact hK _ _ rfl (Below.refl _ _)
    · have h5 := hn 5 (by decide +kernel)
      simp only [npF] at h5
      simp only [h5] at hK ⊢
      refine wpOp_plain rfl rfl (wp_val (w' := W) (v := .bool (e0 && e1)) (by go_simp) ?_)
      exact hK _ _ rfl (Below.refl _ _)
    · have h6 := hn 6 (by decide +kernel)
      simp only [npF] at h6
      simp only [h6] at hK ⊢
      cases e0 with
      | false =>
        refine wpOp_off rfl (by rfl) ?_
        exact hK _ _ rfl (Below.refl _ _)
      | true =>
        cases e1 with
        | false =>
          refine wpOp_off rfl (by rfl) ?_
          exact hK _ _ rfl (Below.refl _ _)
        | true =>
          refine wpOp_on rfl (by rfl) (wp_val (w' := W) (v := .slice A l0 cA) (by go_simp) ?_)
          exact hK _ _ rfl (Below.refl _ _)
    · have h6 := hn 6 (by decide +kernel)
      simp only [npF] at h6
      simp only [h6] at hK ⊢
      cases e0 with
      | false =>
        refine wpOp_off rfl (by rfl) ?_
        exact hK _ _ rfl (Below.refl _ _)
      | true =>
        cases e1 with
        | false =>
          refine wpOp_off rfl (by rfl) ?_
          exact hK _ _ rfl (Below.refl _ _)
        | true =>
          have h7 : vals 7 = .slice A l0 cA := hn 7 (by decide +kernel)
          simp only [h7] at hK ⊢
          refine wpOp_on rfl (by rfl) (wp_val (run_conv_str (.tmp 42) rfl a0 x0 A l0 cA rfl X0.out HL0.out (hB.ts (A, a0) (by simp))) ?_)
          exact hK _ _ rfl (Below.refl _ _)
    · have h6 := hn 6 (by decide +kernel)
      simp only [npF] at h6
      simp only [h6] at hK ⊢
      cases e0 with
      | false =>
        refine wpOp_off rfl (by rfl) ?_
        exact hK _ _ rfl (Below.refl _ _)
      | true =>
        cases e1 with
        | false =>
          refine wpOp_off rfl (by rfl) ?_
          exact hK _ _ rfl (Below.refl _ _)
        | true =>
          refine wpOp_on rfl (by rfl) (wp_val (w' := W) (v := .slice B l1 cB) (by go_simp) ?_)
          exact hK _ _ rfl (Below.refl _ _)
    · have h6 := hn 6 (by decide +kernel)
      simp only [npF] at h6
      simp only [h6] at hK ⊢
      cases e0 with
      | false =>
        refine wpOp_off rfl (by rfl) ?_
        exact hK _ _ rfl (Below.refl _ _)
      | true =>
        cases e1 with
        | false =>
          refine wpOp_off rfl (by rfl) ?_
          exact hK _ _ rfl (Below.refl _ _)
        | true =>
          have h9 : vals 9 = .slice B l1 cB := hn 9 (by decide +kernel)
          simp only [h9] at hK ⊢
          refine wpOp_on rfl (by rfl) (wp_val (run_conv_str (.tmp 44) rfl a1 x1 B l1 cB rfl X1.out HL1.out (hB.ts (B, a1) (by simp))) ?_)
          exact hK _ _ rfl (Below.refl _ _)
    · have h6 := hn 6 (by decide +kernel)
      simp only [npF] at h6
      simp only [h6] at hK ⊢
      cases e0 with
      | false =>
        refine wpOp_off rfl (by rfl) ?_
        exact hK _ _ rfl (Below.refl _ _)
      | true =>
        cases e1 with
        | false =>
          refine wpOp_off rfl (by rfl) ?_
          exact hK _ _ rfl (Below.refl _ _)
        | true =>
          have h8 : vals 8 = .string x0 := hn 8 (by decide +kernel)
          have h10 : vals 10 = .string x1 := hn 10 (by decide +kernel)
          simp only [h8, h10] at hK ⊢
          have hq := S01.out
          refine wpOp_on rfl (by rfl) (wp_val (w' := W) (v := .bool (a0 == a1)) (by go_simp) ?_)
          exact hK _ _ rfl (Below.refl _ _)
    · have h6 := hn 6 (by decide +kernel)
      simp only [npF] at h6
      simp only [h6] at hK ⊢
      cases e0 with
      | false =>
        refine wpOp_off rfl (by rfl) ?_
        exact hK _ _ rfl (Below.refl _ _)
      | true =>
        cases e1 with
        | false =>
          refine wpOp_off rfl (by rfl) ?_
          exact hK _ _ rfl (Below.refl _ _)
        | true =>
          refine wpOp_on rfl (by rfl) (wp_val (w' := W) (v := .pointer (some ⟨w.heap.size, 0, none⟩)) (by go_simp) ?_)
          exact hK _ _ rfl (Below.refl _ _)
    · have h6 := hn 6 (by decide +kernel)
      simp only [npF] at h6
      simp only [h6] at hK ⊢
      cases e0 with
      | false =>
        refine wpOp_off rfl (by rfl) ?_
        exact hK _ _ rfl (Below.refl _ _)
      | true =>
        cases e1 with
        | false =>
          refine wpOp_off rfl (by rfl) ?_
          exact hK _ _ rfl (Below.refl _ _)
        | true =>
          have h12 : vals 12 = .pointer (some ⟨w.heap.size, 0, none⟩) := hn 12 (by decide +kernel)
          simp only [h12] at hK ⊢
          have q := hB.q0
          refine wpOp_on rfl (by rfl) (wp_val (w' := W) (v := .int .u64 (i : Int)) (by go_simp) ?_)
          exact hK _ _ rfl (Below.refl _ _)
    · have h6 := hn 6 (by decide +kernel)
      simp only [npF] at h6
      simp only [h6] at hK ⊢
      cases e0 with
      | false =>
        refine wpOp_off rfl (by rfl) ?_
        exact hK _ _ rfl (Below.refl _ _)
      | true =>
        cases e1 with
        | false =>
          refine wpOp_off rfl (by rfl) ?_
          exact hK _ _ rfl (Below.refl _ _)
        | true =>
          refine wpOp_on rfl (by rfl) (wp_val (w' := W) (v := .pointer (some ⟨w.heap.size, 1, none⟩)) (by go_simp) ?_)
          exact hK _ _ rfl (Below.refl _ _)
    · have h6 := hn 6 (by decide +kernel)
      simp only [npF] at h6
      simp only [h6] at hK ⊢
      cases e0 with
      | false =>
        refine wpOp_off rfl (by rfl) ?_
        exact hK _ _ rfl (Below.refl _ _)
      | true =>
        cases e1 with
        | false =>
          refine wpOp_off rfl (by rfl) ?_
          exact hK _ _ rfl (Below.refl _ _)
        | true =>
          have h14 : vals 14 = .pointer (some ⟨w.heap.size, 1, none⟩) := hn 14 (by decide +kernel)
          simp only [h14] at hK ⊢
          have q := hB.q1
          refine wpOp_on rfl (by rfl) (wp_val (w' := W) (v := .int .u64 (j : Int)) (by go_simp) ?_)
          exact hK _ _ rfl (Below.refl _ _)
    · have h6 := hn 6 (by decide +kernel)
      simp only [npF] at h6
      simp only [h6] at hK ⊢
      cases e0 with
      | false =>
        refine wpOp_off rfl (by rfl) ?_
        exact hK _ _ rfl (Below.refl _ _)
      | true =>
        cases e1 with
        | false =>
          refine wpOp_off rfl (by rfl) ?_
          exact hK _ _ rfl (Below.refl _ _)
        | true =>
          have h13 : vals 13 = .int .u64 (i : Int) := hn 13 (by decide +kernel)
          have h15 : vals 15 = .int .u64 (j : Int) := hn 15 (by decide +kernel)
          simp only [h13, h15] at hK ⊢
          have pp := PIJ.out
          refine wpOp_on rfl (by rfl) (wp_val (w' := W) (v := .bool p) (by go_simp) ?_)
          exact hK _ _ rfl (Below.refl _ _)
    · have h6 := hn 6 (by decide +kernel)
      simp only [npF] at h6
      simp only [h6] at hK ⊢
      cases e0 with
      | false =>
        refine wpOp_off rfl (by rfl) ?_
        exact hK _ _ rfl (Below.refl _ _)
      | true =>
        cases e1 with
        | false =>
          refine wpOp_off rfl (by rfl) ?_
          exact hK _ _ rfl (Below.refl _ _)
        | true =>
          have h16 : vals 16 = .bool p := hn 16 (by decide +kernel)
          simp only [h16] at hK ⊢
          refine wpOp_on rfl (by rfl) (wp_val (w' := W) (v := .bool p) (by go_simp) ?_)
          exact hK _ _ rfl (Below.refl _ _)
    · cases e0 with
      | false =>
        have h17 : vals 17 = undef := hn 17 (by decide +kernel)
        simp only [h17] at hK ⊢
        refine wpOp_off rfl (by rfl) ?_
        exact hK _ _ rfl (Below.refl _ _)
      | true =>
        cases e1 with
        | false =>
          have h17 : vals 17 = undef := hn 17 (by decide +kernel)
          simp only [h17] at hK ⊢
          refine wpOp_off rfl (by rfl) ?_
          exact hK _ _ rfl (Below.refl _ _)
        | true =>
          cases p with
          | false =>
            have h17 : vals 17 = .bool false := hn 17 (by decide +kernel)
            simp only [h17] at hK ⊢
            refine wpOp_off rfl (by rfl) ?_
            exact hK _ _ rfl (Below.refl _ _)
          | true =>
            have h17 : vals 17 = .bool true := hn 17 (by decide +kernel)
            simp only [h17] at hK ⊢
            refine wpOp_on rfl (by rfl) (wp_val (w' := W) (v := .pointer (some ⟨w.heap.size + 1, 0, none⟩)) (by go_simp) ?_)
            exact hK _ _ rfl (Below.refl _ _)
    · cases e0 with
      | false =>
        have h17 : vals 17 = undef := hn 17 (by decide +kernel)
        simp only [h17] at hK ⊢
        refine wpOp_off rfl (by rfl) ?_
        exact hK _ _ rfl (Below.refl _ _)
      | true =>
        cases e1 with
        | false =>
          have h17 : vals 17 = undef := hn 17 (by decide +kernel)
          simp only [h17] at hK ⊢
          refine wpOp_off rfl (by rfl) ?_
          exact hK _ _ rfl (Below.refl _ _)
        | true =>
          cases p with
          | false =>
            have h17 : vals 17 = .bool false := hn 17 (by decide +kernel)
            simp only [h17] at hK ⊢
            refine wpOp_off rfl (by rfl) ?_
            exact hK _ _ rfl (Below.refl _ _)
          | true =>
            have h17 : vals 17 = .bool true := hn 17 (by decide +kernel)
            simp only [h17] at hK ⊢
            have h18 : vals 18 = .pointer (some ⟨w.heap.size + 1, 0, none⟩) := hn 18 (by decide +kernel)
            simp only [h18] at hK ⊢
            refine wpOp_on rfl (by rfl) (wp_val (run_loadPsAt (.tmp 53) rfl (w.heap.size + 1) 0 rfl u0 (R0.out W hB.x) HXA.out) ?_)
            exact hK _ _ rfl (Below.refl _ _)
    · cases e0 with
      | false =>
        have h17 : vals 17 = undef := hn 17 (by decide +kernel)
        simp only [h17] at hK ⊢
        refine wpOp_off rfl (by rfl) ?_
        exact hK _ _ rfl (Below.refl _ _)
      | true =>
        cases e1 with
        | false =>
          have h17 : vals 17 = undef := hn 17 (by decide +kernel)
          simp only [h17] at hK ⊢
          refine wpOp_off rfl (by rfl) ?_
          exact hK _ _ rfl (Below.refl _ _)
        | true =>
          cases p with
          | false =>
            have h17 : vals 17 = .bool false := hn 17 (by decide +kernel)
            simp only [h17] at hK ⊢
            refine wpOp_off rfl (by rfl) ?_
            exact hK _ _ rfl (Below.refl _ _)
          | true =>
            have h17 : vals 17 = .bool true := hn 17 (by decide +kernel)
            simp only [h17] at hK ⊢
            refine wpOp_on rfl (by rfl) (wp_val (w' := W) (v := .pointer (some ⟨w.heap.size + 1, 49, none⟩)) (by go_simp) ?_)
            exact hK _ _ rfl (Below.refl _ _)
    · cases e0 with
      | false =>
        have h17 : vals 17 = undef := hn 17 (by decide +kernel)
        simp only [h17] at hK ⊢
        refine wpOp_off rfl (by rfl) ?_
        exact hK _ _ rfl (Below.refl _ _)
      | true =>
        cases e1 with
        | false =>
          have h17 : vals 17 = undef := hn 17 (by decide +kernel)
          simp only [h17] at hK ⊢
          refine wpOp_off rfl (by rfl) ?_
          exact hK _ _ rfl (Below.refl _ _)
        | true =>
          cases p with
          | false =>
            have h17 : vals 17 = .bool false := hn 17 (by decide +kernel)
            simp only [h17] at hK ⊢
            refine wpOp_off rfl (by rfl) ?_
            exact hK _ _ rfl (Below.refl _ _)
          | true =>
            have h17 : vals 17 = .bool true := hn 17 (by decide +kernel)
            simp only [h17] at hK ⊢
            have h20 : vals 20 = .pointer (some ⟨w.heap.size + 1, 49, none⟩) := hn 20 (by decide +kernel)
            simp only [h20] at hK ⊢
            refine wpOp_on rfl (by rfl) (wp_val (run_loadPsAt (.tmp 55) rfl (w.heap.size + 1) 49 rfl u1 (R1.out W hB.x) HXB.out) ?_)
            exact hK _ _ rfl (Below.refl _ _)
    · cases e0 with
      | false =>
        have h17 : vals 17 = undef := hn 17 (by decide +kernel)
        simp only [h17] at hK ⊢
        refine wpOp_off rfl (by rfl) ?_
        exact hK _ _ rfl (Below.refl _ _)
      | true =>
        cases e1 with
        | false =>
          have h17 : vals 17 = undef := hn 17 (by decide +kernel)
          simp only [h17] at hK ⊢
          refine wpOp_off rfl (by rfl) ?_
          exact hK _ _ rfl (Below.refl _ _)
        | true =>
          cases p with
          | false =>
            have h17 : vals 17 = .bool false := hn 17 (by decide +kernel)
            simp only [h17] at hK ⊢
            refine wpOp_off rfl (by rfl) ?_
            exact hK _ _ rfl (Below.refl _ _)
          | true =>
            have h17 : vals 17 = .bool true := hn 17 (by decide +kernel)
            simp only [h17] at hK ⊢
            have h19 : vals 19 = .agg u0.toArray := hn 19 (by decide +kernel)
            have h21 : vals 21 = .agg u1.toArray := hn 21 (by decide +kernel)
            simp only [h19, h21] at hK ⊢
            refine wpOp_on rfl (by rfl) (wp_val (run_eql_psv _ (.tmp 54) (.tmp 56) rfl e f d d' t t' HDL.out HDL'.out HTL.out HTL'.out (by rw [← U0.out]; rfl) (by rw [← U1.out]; rfl) s HS.out.symm W) ?_)
            exact hK _ _ rfl (Below.refl _ _)
    · have h6 := hn 6 (by decide +kernel)
      simp only [npF] at h6
      simp only [h6] at hK ⊢
      cases e0 with
      | false =>
        refine wpOp_off rfl (by rfl) ?_
        exact hK _ _ rfl (Below.refl _ _)
      | true =>
        cases e1 with
        | false =>
          refine wpOp_off rfl (by rfl) ?_
          exact hK _ _ rfl (Below.refl _ _)
        | true =>
          cases p with
          | false =>
            have h17 : vals 17 = .bool false := hn 17 (by decide +kernel)
            simp only [h17] at hK ⊢
            refine wpOp_on rfl (by rfl) (wp_val (w' := W) (v := .bool false) (by go_simp) ?_)
            exact hK _ _ rfl (Below.refl _ _)
          | true =>
            have h17 : vals 17 = .bool true := hn 17 (by decide +kernel)
            have h22 : vals 22 = .bool s := hn 22 (by decide +kernel)
            simp only [h17, h22] at hK ⊢
            refine wpOp_on rfl (by rfl) (wp_val (w' := W) (v := .bool s) (by go_simp) ?_)
            exact hK _ _ rfl (Below.refl _ _)
    · have h6 := hn 6 (by decide +kernel)
      simp only [npF] at h6
      simp only [h6] at hK ⊢
      cases e0 with
      | false =>
        refine wpOp_off rfl (by rfl) ?_
        exact hK _ _ rfl (Below.refl _ _)
      | true =>
        cases e1 with
        | false =>
          refine wpOp_off rfl (by rfl) ?_
          exact hK _ _ rfl (Below.refl _ _)
        | true =>
          have h11 : vals 11 = .bool (a0 == a1) := hn 11 (by decide +kernel)
          have h23 : vals 23 = .bool (p && s) := hn 23 (by decide +kernel)
          simp only [h11, h23] at hK ⊢
          have hz := HQ.out rfl rfl
          have hz2 : ((a0 == a1) != (p && s)) = false := by rw [hz]; simp
          refine wpOp_on rfl (by rfl) (wp_val (w' := W) (v := .bool false) (by go_simp) ?_)
          exact hK _ _ rfl (Below.refl _ _)
    · have h6 := hn 6 (by decide +kernel)
      simp only [npF] at h6
      simp only [h6] at hK ⊢
      cases e0 with
      | false =>
        refine wpOp_plain rfl rfl (wp_val (w' := W) (v := .bool false) (by go_simp) ?_)
        exact hK _ _ rfl (Below.refl _ _)
      | true =>
        cases e1 with
        | false =>
          refine wpOp_plain rfl rfl (wp_val (w' := W) (v := .bool false) (by go_simp) ?_)
          exact hK _ _ rfl (Below.refl _ _)
        | true =>
          have h24 : vals 24 = .bool false := hn 24 (by decide +kernel)
          simp only [h24] at hK ⊢
          refine wpOp_plain rfl rfl (wp_val (w' := W) (v := .bool false) (by go_simp) ?_)
          exact hK _ _ rfl (Below.refl _ _)
  · intro vals W hB hF
    have h25 := hF 25 (by omega)
    simp only [npF] at h25
    simp only [frm_cons, frm_nil, List.set_cons_succ, List.set_cons_zero, Nat.reduceAdd, h25]
    refine wpUpto_done (by decide +kernel) ?_ _
    have H4 := hid hB
    clear hB hF h25 H3
    go_simp
    go_wp2
    try simp only [Act.put, List.setIfInBounds_toArray, List.set_cons_succ, List.set_cons_zero]
    refine wp_region_upto (NpW w i j xs m n [] [(B, a1), (A, a0)]) 10 10 (by kernel_rfl) (by kernel_rfl) ?_
    have H5 := hid H4.out.drew
    generalize W.drew = V at H5 ⊢
    clear H4
    refine wpUpto_takeL (i := 0) (v := .pointer (some ⟨w.heap.size + 1, 0, none⟩)) rfl rfl (by decide +kernel) (by decide +kernel) (by decide +kernel) (by decide +kernel) (by decide) (fun _ _ _ h => h) (Or.inl ⟨by rfl, ?_⟩) H5.out ?_
    · (intro W' hSW; go_simp)
    simp only [List.set_cons_succ, List.set_cons_zero]
    refine wpUpto_takeL (i := 1) (v := .pointer (some ⟨w.heap.size + 1, 1, none⟩)) rfl rfl (by decide +kernel) (by decide +kernel) (by decide +kernel) (by decide +kernel) (by decide) (fun _ _ _ h => h) (Or.inl ⟨by rfl, ?_⟩) H5.out ?_
    · (intro W' hSW; go_simp)
    simp only [List.set_cons_succ, List.set_cons_zero]
    refine wpUpto_takeL (i := 2) (v := .agg (ubs d).toArray) rfl rfl (by decide +kernel) (by decide +kernel) (by decide +kernel) (by decide +kernel) (by decide) (fun _ _ _ h => h) (Or.inl ⟨by rfl, ?_⟩) H5.out ?_
    · (intro W' hSW; exact run_loadB (.tmp 62) rfl (w.heap.size + 1) 1 rfl d (D0.out _ hSW.x) HDL.out)
    simp only [List.set_cons_succ, List.set_cons_zero]
    refine wpUpto_takeL (i := 3) (v := .pointer (some ⟨w.heap.size + 1, 49, none⟩)) rfl rfl (by decide +kernel) (by decide +kernel) (by decide +kernel) (by decide +kernel) (by decide) (fun _ _ _ h => h) (Or.inl ⟨by rfl, ?_⟩) H5.out ?_
    · (intro W' hSW; go_simp)
    simp only [List.set_cons_succ, List.set_cons_zero]
    refine wpUpto_takeL (i := 4) (v := .pointer (some ⟨w.heap.size + 1, 50, none⟩)) rfl rfl (by decide +kernel) (by decide +kernel) (by decide +kernel) (by decide +kernel) (by decide) (fun _ _ _ h => h) (Or.inl ⟨by rfl, ?_⟩) H5.out ?_
    · (intro W' hSW; go_simp)
    simp only [List.set_cons_succ, List.set_cons_zero]
    refine wpUpto_takeL (i := 5) (v := .agg (ubs d').toArray) rfl rfl (by decide +kernel) (by decide +kernel) (by decide +kernel) (by decide +kernel) (by decide) (fun _ _ _ h => h) (Or.inl ⟨by rfl, ?_⟩) H5.out ?_
    · (intro W' hSW; exact run_loadB (.tmp 65) rfl (w.heap.size + 1) 50 rfl d' (D1.out _ hSW.x) HDL'.out)
    simp only [List.set_cons_succ, List.set_cons_zero]
    refine wpUpto_two (i := 6) (j := 7) rfl rfl (by decide +kernel) rfl rfl ?_ ?_
    · intro Q0 hQ0
      refine wp_val (HAH.out _ _ V rfl) ?_
      refine hQ0.out _ _ (fun _ => H5.out.new ((Below.refl _ _).alloc (Nat.le_refl _) _)) ?_
      clear hQ0 Q0
      have N1 := hid (At.new V (ubs n32).toArray 29)
      have B1 := hid ((Below.refl V.heap.size V).alloc (Nat.le_refl _) (.cells (ubs n32).toArray 29))
      have Z1 := hid (show (V.alloc (.cells (ubs n32).toArray 29)).heap.size = V.heap.size + 1 by simp)
      generalize V.alloc (.cells (ubs n32).toArray 29) = V1 at N1 B1 Z1 ⊢
      try simp only [Act.put, List.setIfInBounds_toArray]
      refine wpUpto_one (i := 7) rfl (by decide +kernel) rfl ?_
      intro Q0 hQ0
      refine wp_val (HAH.out _ _ V1 rfl) ?_
      have N2 := hid (N1.out.alloc (.cells (ubs n32).toArray 29))
      have M2 := hid (At.new V1 (ubs n32).toArray 29)
      have B2 := hid (B1.out.alloc (by rw [Z1.out]; omega) (.cells (ubs n32).toArray 29))
      refine hQ0.out _ _ (fun _ => H5.out.new B2.out) ?_
      clear hQ0 Q0 N1 B1
      generalize V1.alloc (.cells (ubs n32).toArray 29) = V2 at N2 M2 B2 ⊢
      try simp only [Act.put]
      refine wpUpto_one (i := 8) rfl (by decide +kernel) rfl ?_
      intro Q0 hQ0
      refine wp_store_row 29 (.tmp 11) (.tmp 63) rfl V.heap.size (ubs d).toArray rfl rfl 29 (ubs n32).toArray N2.out (sizeH_of HDL.out) (by simp [ubs_length, n32_length, HDL.out]) (ubs_all _) ?_
      refine hQ0.out _ _ (fun _ => H5.out.new (below_setRow B2.out (Nat.le_refl _) _)) ?_
      clear hQ0 Q0
      refine wpUpto_one (i := 9) rfl (by decide +kernel) rfl ?_
      intro Q0 hQ0
      refine wp_store_row 29 (.tmp 12) (.tmp 66) rfl V1.heap.size (ubs d').toArray rfl rfl 29 (ubs n32).toArray (M2.out.setRow_far (Ne.symm (show V.heap.size ≠ V1.heap.size by rw [Z1.out]; omega))) (sizeH_of HDL'.out) (by simp [ubs_length, n32_length, HDL'.out]) (ubs_all _) ?_
      refine hQ0.out _ _ (fun _ => H5.out.new (below_setRow (below_setRow B2.out (Nat.le_refl _) _) (show V.heap.size ≤ V1.heap.size by rw [Z1.out]; omega) _)) ?_
      clear hQ0 Q0
      refine wpUpto_done (by decide +kernel) ?_ _
      have H6 := hid (H5.out.fill B2.out N2.out M2.out (show V.heap.size ≠ V1.heap.size by rw [Z1.out]; omega) (Nat.le_refl _) (show V.heap.size ≤ V1.heap.size by rw [Z1.out]; omega) d d')
      generalize ((V2.setRow V.heap.size (ubs d).toArray).setRow V1.heap.size (ubs d').toArray) = W6 at H6 ⊢
      clear N2 M2 B2 Z1 H5
      generalize V.heap.size = X at H6 ⊢
      generalize V1.heap.size = Y at H6 ⊢
      go_simp
      have n0 := H6.out.n0
      go_wp2_with (first
        | (refine wpList_valW (by rfl) (run_loadH (.tmp 11) rfl X 0 rfl d (range_whole (H6.out.hs (X, d) (by simp))) HDL.out) ?_)
        | (refine wpList_valW (by rfl) (run_loadH (.tmp 12) rfl Y 0 rfl d' (range_whole (H6.out.hs (Y, d') (by simp))) HDL'.out) ?_)
        | (go_at_call 17; (with_reducible refine (HA2.out W6 H6.out.below).mono ?_); rintro r7 w7 ⟨C, cC, rfl, hr7, hb7⟩; have H7 := hid (H6.out.text hb7 hr7); clear hb7 hr7 n0; have n1 := H7.out.n1)
        | (refine wpList_valW (by rfl) (run_loadH (.tmp 11) rfl X 0 rfl d (range_whole (H7.out.hs (X, d) (by simp))) HDL.out) ?_)
        | (refine wpList_valW (by rfl) (run_loadH (.tmp 12) rfl Y 0 rfl d' (range_whole (H7.out.hs (Y, d') (by simp))) HDL'.out) ?_)
        | (go_at_call 17; (with_reducible refine (HA3.out w7 H7.out.below).mono ?_); rintro r8 w8 ⟨D, cD, rfl, hr8, hb8⟩; have H8 := hid (H7.out.text hb8 hr8); clear hb8 hr8 n1))
      clear H6 H7
      try simp only [Act.put, List.setIfInBounds_toArray, List.set_cons_succ, List.set_cons_zero]
      refine wp_region_facts 24 24 [83, 84, 85, 86, 87, 88, 89, 90, 91, 92, 93, 94, 95, 96, 97, 98, 99, 100, 101, 102, 103, 104, 105, 106] (fun k v _ => v = npF (E2) (E3) g2 g3 p2 s2 (.slice C l2 cC) (.slice D l3 cD) x2 x3 (.pointer (some ⟨w.heap.size + 1 + 1, 0, none⟩)) (.int .i64 m) (.pointer (some ⟨w.heap.size + 1 + 1, 1, none⟩)) (.int .i64 n) [.agg (ubs d).toArray, .agg (ubs d').toArray, .bool s2] (a2 == a3) k) (NpW w i j xs m n [(X, d), (Y, d')] [(D, a3), (C, a2), (B, a1), (A, a0)]) (by kernel_rfl) (by kernel_rfl)
        (fun W W' h hb => h.new hb) (fun _ _ _ _ h _ => h) (H8.out.drew) ?_ ?_
      · intro i hi vals W K hB hn hK
        simp only [frm_cons, frm_nil, List.set_cons_succ, List.set_cons_zero, Nat.reduceAdd] at hK ⊢
        rcases (by omega : i = 0 ∨ i = 1 ∨ i = 2 ∨ i = 3 ∨ i = 4 ∨ i = 5 ∨ i = 6 ∨ i = 7 ∨ i = 8 ∨ i = 9 ∨ i = 10 ∨ i = 11 ∨ i = 12 ∨ i = 13 ∨ i = 14 ∨ i = 15 ∨ i = 16 ∨ i = 17 ∨ i = 18 ∨ i = 19 ∨ i = 20 ∨ i = 21 ∨ i = 22 ∨ i = 23) with rfl | rfl | rfl | rfl | rfl | rfl | rfl | rfl | rfl | rfl | rfl | rfl | rfl | rfl | rfl | rfl | rfl | rfl | rfl | rfl | rfl | rfl | rfl | rfl
        · refine wpOp_plain rfl rfl (wp_val (w' := W) (v := E2) (by go_simp) ?_)
          exact hK _ _ rfl (Below.refl _ _)
        · have h0 := hn 0 (by decide +kernel)
          simp only [npF] at h0
          simp only [h0] at hK ⊢
          refine wpOp_plain rfl rfl (wp_val (run_eqlE _ 83 rfl E2 g2 rfl HE2.out W) ?_)
          exact hK _ _ rfl (Below.refl _ _)
        · have h1 := hn 1 (by decide +kernel)
          simp only [npF] at h1
          simp only [h1] at hK ⊢
          refine wpOp_plain rfl rfl (wp_val (w' := W) (v := .bool g2) (by go_simp) ?_)
          exact hK _ _ rfl (Below.refl _ _)
        · have h2 := hn 2 (by decide +kernel)
          simp only [npF] at h2
          simp only [h2] at hK ⊢
          cases g2 with
          | false =>
            refine wpOp_off rfl (by rfl) ?_
            exact hK _ _ rfl (Below.refl _ _)
          | true =>
            refine wpOp_on rfl (by rfl) (wp_val (w' := W) (v := E3) (by go_simp) ?_)
            exact hK _ _ rfl (Below.refl _ _)
        · have h2 := hn 2 (by decide +kernel)
          simp only [npF] at h2
          simp only [h2] at hK ⊢
          cases g2 with
          | false =>
            refine wpOp_off rfl (by rfl) ?_
            exact hK _ _ rfl (Below.refl _ _)
          | true =>
            have h3 : vals 3 = E3 := hn 3 (by decide +kernel)
            simp only [h3] at hK ⊢
            refine wpOp_on rfl (by rfl) (wp_val (run_eqlE _ 86 rfl E3 g3 rfl HE3.out W) ?_)
            exact hK _ _ rfl (Below.refl _ _)
        · have h2 := hn 2 (by decide +kernel)
          simp only [npF] at h2
          simp only [h2] at hK ⊢
          cases g2 with
          | false =>
            refine wpOp_plain rfl rfl (wp_val (w' := W) (v := .bool false) (by go_simp) ?_)
            exact hK _ _ rfl (Below.refl _ _)
          | true =>
            have h4 : vals 4 = .bool g3 := hn 4 (by decide +kernel)
            simp only [h4] at hK ⊢
            refine wpOp_plain rfl rfl (wp_val (w' := W) (v := .bool g3) (by go_simp) ?_)
            exact hK _ _ rfl (Below.refl _ _)
        · have h5 := hn 5 (by decide +kernel)
          simp only [npF] at h5
          simp only [h5] at hK ⊢
          refine wpOp_plain rfl rfl (wp_val (w' := W) (v := .bool (g2 && g3)) (by go_simp) ?_)
          exact hK _ _ rfl (Below.refl _ _)
        · have h6 := hn 6 (by decide +kernel)
          simp only [npF] at h6
          simp only [h6] at hK ⊢
          cases g2 with
          | false =>
            refine wpOp_off rfl (by rfl) ?_
            exact hK _ _ rfl (Below.refl _ _)
          | true =>
            cases g3 with
            | false =>
              refine wpOp_off rfl (by rfl) ?_
              exact hK _ _ rfl (Below.refl _ _)
            | true =>
              refine wpOp_on rfl (by rfl) (wp_val (w' := W) (v := .slice C l2 cC) (by go_simp) ?_)
              exact hK _ _ rfl (Below.refl _ _)
        · have h6 := hn 6 (by decide +kernel)
          simp only [npF] at h6
          simp only [h6] at hK ⊢
          cases g2 with
          | false =>
            refine wpOp_off rfl (by rfl) ?_
            exact hK _ _ rfl (Below.refl _ _)
          | true =>
            cases g3 with
            | false =>
              refine wpOp_off rfl (by rfl) ?_
              exact hK _ _ rfl (Below.refl _ _)
            | true =>
              have h7 : vals 7 = .slice C l2 cC := hn 7 (by decide +kernel)
              simp only [h7] at hK ⊢
              refine wpOp_on rfl (by rfl) (wp_val (run_conv_str (.tmp 90) rfl a2 x2 C l2 cC rfl X2.out HL2.out (hB.ts (C, a2) (by simp))) ?_)
              exact hK _ _ rfl (Below.refl _ _)
        · have h6 := hn 6 (by decide +kernel)
          simp only [npF] at h6
          simp only [h6] at hK ⊢
          cases g2 with
          | false =>
            refine wpOp_off rfl (by rfl) ?_
            exact hK _ _ rfl (Below.refl _ _)
          | true =>
            cases g3 with
            | false =>
              refine wpOp_off rfl (by rfl) ?_
              exact hK _ _ rfl (Below.refl _ _)
            | true =>
              refine wpOp_on rfl (by rfl) (wp_val (w' := W) (v := .slice D l3 cD) (by go_simp) ?_)
              exact hK _ _ rfl (Below.refl _ _)
        · have h6 := hn 6 (by decide +kernel)
          simp only [npF] at h6
          simp only [h6] at hK ⊢
          cases g2 with
          | false =>
            refine wpOp_off rfl (by rfl) ?_
            exact hK _ _ rfl (Below.refl _ _)
          | true =>
            cases g3 with
            | false =>
              refine wpOp_off rfl (by rfl) ?_
              exact hK _ _ rfl (Below.refl _ _)
            | true =>
              have h9 : vals 9 = .slice D l3 cD := hn 9 (by decide +kernel)
              simp only [h9] at hK ⊢
              refine wpOp_on rfl (by rfl) (wp_val (run_conv_str (.tmp 92) rfl a3 x3 D l3 cD rfl X3.out HL3.out (hB.ts (D, a3) (by simp))) ?_)
              exact hK _ _ rfl (Below.refl _ _)
        · have h6 := hn 6 (by decide +kernel)
          simp only [npF] at h6
          simp only [h6] at hK ⊢
          cases g2 with
          | false =>
            refine wpOp_off rfl (by rfl) ?_
            exact hK _ _ rfl (Below.refl _ _)
          | true =>
            cases g3 with
            | false =>
              refine wpOp_off rfl (by rfl) ?_
              exact hK _ _ rfl (Below.refl _ _)
            | true =>
              have h8 : vals 8 = .string x2 := hn 8 (by decide +kernel)
              have h10 : vals 10 = .string x3 := hn 10 (by decide +kernel)
              simp only [h8, h10] at hK ⊢
              have hq := S23.out
              refine wpOp_on rfl (by rfl) (wp_val (w' := W) (v := .bool (a2 == a3)) (by go_simp) ?_)
              exact hK _ _ rfl (Below.refl _ _)
        · have h6 := hn 6 (by decide +kernel)
          simp only [npF] at h6
          simp only [h6] at hK ⊢
          cases g2 with
          | false =>
            refine wpOp_off rfl (by rfl) ?_
            exact hK _ _ rfl (Below.refl _ _)
          | true =>
            cases g3 with
            | false =>
              refine wpOp_off rfl (by rfl) ?_
              exact hK _ _ rfl (Below.refl _ _)
            | true =>
              refine wpOp_on rfl (by rfl) (wp_val (w' := W) (v := .pointer (some ⟨w.heap.size + 1 + 1, 0, none⟩)) (by go_simp) ?_)
              exact hK _ _ rfl (Below.refl _ _)
        · have h6 := hn 6 (by decide +kernel)
          simp only [npF] at h6
          simp only [h6] at hK ⊢
          cases g2 with
          | false =>
            refine wpOp_off rfl (by rfl) ?_
            exact hK _ _ rfl (Below.refl _ _)
          | true =>
            cases g3 with
            | false =>
              refine wpOp_off rfl (by rfl) ?_
              exact hK _ _ rfl (Below.refl _ _)
            | true =>
              have h12 : vals 12 = .pointer (some ⟨w.heap.size + 1 + 1, 0, none⟩) := hn 12 (by decide +kernel)
              simp only [h12] at hK ⊢
              have q := hB.n0
              refine wpOp_on rfl (by rfl) (wp_val (w' := W) (v := .int .i64 m) (by go_simp) ?_)
              exact hK _ _ rfl (Below.refl _ _)
        · have h6 := hn 6 (by decide +kernel)
          simp only [npF] at h6
          simp only [h6] at hK ⊢
          cases g2 with
          | false =>
            refine wpOp_off rfl (by rfl) ?_
            exact hK _ _ rfl (Below.refl _ _)
          | true =>
            cases g3 with
            | false =>
              refine wpOp_off rfl (by rfl) ?_
              exact hK _ _ rfl (Below.refl _ _)
            | true =>
              refine wpOp_on rfl (by rfl) (wp_val (w' := W) (v := .pointer (some ⟨w.heap.size + 1 + 1, 1, none⟩)) (by go_simp) ?_)
              exact hK _ _ rfl (Below.refl _ _)
        · have h6 := hn 6 (by decide +kernel)
          simp only [npF] at h6
          simp only [h6] at hK ⊢
          cases g2 with
          | false =>
            refine wpOp_off rfl (by rfl) ?_
            exact hK _ _ rfl (Below.refl _ _)
          | true =>
            cases g3 with
            | false =>
              refine wpOp_off rfl (by rfl) ?_
              exact hK _ _ rfl (Below.refl _ _)
            | true =>
              have h14 : vals 14 = .pointer (some ⟨w.heap.size + 1 + 1, 1, none⟩) := hn 14 (by decide +kernel)
              simp only [h14] at hK ⊢
              have q := hB.n1
              refine wpOp_on rfl (by rfl) (wp_val (w' := W) (v := .int .i64 n) (by go_simp) ?_)
              exact hK _ _ rfl (Below.refl _ _)
        · have h6 := hn 6 (by decide +kernel)
          simp only [npF] at h6
          simp only [h6] at hK ⊢
          cases g2 with
          | false =>
            refine wpOp_off rfl (by rfl) ?_
            exact hK _ _ rfl (Below.refl _ _)
          | true =>
            cases g3 with
            | false =>
              refine wpOp_off rfl (by rfl) ?_
              exact hK _ _ rfl (Below.refl _ _)
            | true =>
              have h13 : vals 13 = .int .i64 m := hn 13 (by decide +kernel)
              have h15 : vals 15 = .int .i64 n := hn 15 (by decide +kernel)
              simp only [h13, h15] at hK ⊢
              have pp := HP2.out.symm
              refine wpOp_on rfl (by rfl) (wp_val (w' := W) (v := .bool p2) (by go_simp) ?_)
              exact hK _ _ rfl (Below.refl _ _)
        · have h6 := hn 6 (by decide +kernel)
          simp only [npF] at h6
          simp only [h6] at hK ⊢
          cases g2 with
          | false =>
            refine wpOp_off rfl (by rfl) ?_
            exact hK _ _ rfl (Below.refl _ _)
          | true =>
            cases g3 with
            | false =>
              refine wpOp_off rfl (by rfl) ?_
              exact hK _ _ rfl (Below.refl _ _)
            | true =>
              have h16 : vals 16 = .bool p2 := hn 16 (by decide +kernel)
              simp only [h16] at hK ⊢
              refine wpOp_on rfl (by rfl) (wp_val (w' := W) (v := .bool p2) (by go_simp) ?_)
              exact hK _ _ rfl (Below.refl _ _)
        · cases g2 with
          | false =>
            have h17 : vals 17 = undef := hn 17 (by decide +kernel)
            simp only [h17] at hK ⊢
            refine wpOp_off rfl (by rfl) ?_
            exact hK _ _ rfl (Below.refl _ _)
          | true =>
            cases g3 with
            | false =>
              have h17 : vals 17 = undef := hn 17 (by decide +kernel)
              simp only [h17] at hK ⊢
              refine wpOp_off rfl (by rfl) ?_
              exact hK _ _ rfl (Below.refl _ _)
            | true =>
              cases p2 with
              | false =>
                have h17 : vals 17 = .bool false := hn 17 (by decide +kernel)
                simp only [h17] at hK ⊢
                refine wpOp_off rfl (by rfl) ?_
                exact hK _ _ rfl (Below.refl _ _)
              | true =>
                have h17 : vals 17 = .bool true := hn 17 (by decide +kernel)
                simp only [h17] at hK ⊢
                refine wpOp_on rfl (by rfl) (wp_val (run_loadH (.tmp 11) rfl X 0 rfl d (range_whole (hB.hs (X, d) (by simp))) HDL.out) ?_)
                exact hK _ _ rfl (Below.refl _ _)
        · cases g2 with
          | false =>
            have h17 : vals 17 = undef := hn 17 (by decide +kernel)
            simp only [h17] at hK ⊢
            refine wpOp_off rfl (by rfl) ?_
            exact hK _ _ rfl (Below.refl _ _)
          | true =>
            cases g3 with
            | false =>
              have h17 : vals 17 = undef := hn 17 (by decide +kernel)
              simp only [h17] at hK ⊢
              refine wpOp_off rfl (by rfl) ?_
              exact hK _ _ rfl (Below.refl _ _)
            | true =>
              cases p2 with
              | false =>
                have h17 : vals 17 = .bool false := hn 17 (by decide +kernel)
                simp only [h17] at hK ⊢
                refine wpOp_off rfl (by rfl) ?_
                exact hK _ _ rfl (Below.refl _ _)
              | true =>
                have h17 : vals 17 = .bool true := hn 17 (by decide +kernel)
                simp only [h17] at hK ⊢
                refine wpOp_on rfl (by rfl) (wp_val (run_loadH (.tmp 12) rfl Y 0 rfl d' (range_whole (hB.hs (Y, d') (by simp))) HDL'.out) ?_)
                exact hK _ _ rfl (Below.refl _ _)
        · cases g2 with
          | false =>
            have h17 : vals 17 = undef := hn 17 (by decide +kernel)
            simp only [h17] at hK ⊢
            refine wpOp_off rfl (by rfl) ?_
            exact hK _ _ rfl (Below.refl _ _)
          | true =>
            cases g3 with
            | false =>
              have h17 : vals 17 = undef := hn 17 (by decide +kernel)
              simp only [h17] at hK ⊢
              refine wpOp_off rfl (by rfl) ?_
              exact hK _ _ rfl (Below.refl _ _)
            | true =>
              cases p2 with
              | false =>
                have h17 : vals 17 = .bool false := hn 17 (by decide +kernel)
                simp only [h17] at hK ⊢
                refine wpOp_off rfl (by rfl) ?_
                exact hK _ _ rfl (Below.refl _ _)
              | true =>
                have h17 : vals 17 = .bool true := hn 17 (by decide +kernel)
                simp only [h17] at hK ⊢
                have h18 : vals 18 = .agg (ubs d).toArray := hn 18 (by decide +kernel)
                have h19 : vals 19 = .agg (ubs d').toArray := hn 19 (by decide +kernel)
                simp only [h18, h19] at hK ⊢
                refine wpOp_on rfl (by rfl) (wp_val (run_eqlH _ (.tmp 101) (.tmp 102) rfl d d' HDL.out HDL'.out rfl rfl s2 HS2.out.symm W) ?_)
                exact hK _ _ rfl (Below.refl _ _)
        · have h6 := hn 6 (by decide +kernel)
          simp only [npF] at h6
          simp only [h6] at hK ⊢
          cases g2 with
          | false =>
            refine wpOp_off rfl (by rfl) ?_
            exact hK _ _ rfl (Below.refl _ _)
          | true =>
            cases g3 with
            | false =>
              refine wpOp_off rfl (by rfl) ?_
              exact hK _ _ rfl (Below.refl _ _)
            | true =>
              cases p2 with
              | false =>
                have h17 : vals 17 = .bool false := hn 17 (by decide +kernel)
                simp only [h17] at hK ⊢
                refine wpOp_on rfl (by rfl) (wp_val (w' := W) (v := .bool false) (by go_simp) ?_)
                exact hK _ _ rfl (Below.refl _ _)
              | true =>
                have h17 : vals 17 = .bool true := hn 17 (by decide +kernel)
                have h20 : vals 20 = .bool s2 := hn 20 (by decide +kernel)
                simp only [h17, h20] at hK ⊢
                refine wpOp_on rfl (by rfl) (wp_val (w' := W) (v := .bool s2) (by go_simp) ?_)
                exact hK _ _ rfl (Below.refl _ _)
        · have h6 := hn 6 (by decide +kernel)
          simp only [npF] at h6
          simp only [h6] at hK ⊢
          cases g2 with
          | false =>
            refine wpOp_off rfl (by rfl) ?_
            exact hK _ _ rfl (Below.refl _ _)
          | true =>
            cases g3 with
            | false =>
              refine wpOp_off rfl (by rfl) ?_
              exact hK _ _ rfl (Below.refl _ _)
            | true =>
              have h11 : vals 11 = .bool (a2 == a3) := hn 11 (by decide +kernel)
              have h21 : vals 21 = .bool (p2 && s2) := hn 21 (by decide +kernel)
              simp only [h11, h21] at hK ⊢
              have hz := HQ2.out rfl rfl
              have hz2 : ((a2 == a3) != (p2 && s2)) = false := by rw [hz]; simp
              refine wpOp_on rfl (by rfl) (wp_val (w' := W) (v := .bool false) (by go_simp) ?_)
              exact hK _ _ rfl (Below.refl _ _)
        · have h6 := hn 6 (by decide +kernel)
          simp only [npF] at h6
          simp only [h6] at hK ⊢
          cases g2 with
          | false =>
            refine wpOp_plain rfl rfl (wp_val (w' := W) (v := .bool false) (by go_simp) ?_)
            exact hK _ _ rfl (Below.refl _ _)
          | true =>
            cases g3 with
            | false =>
              refine wpOp_plain rfl rfl (wp_val (w' := W) (v := .bool false) (by go_simp) ?_)
              exact hK _ _ rfl (Below.refl _ _)
            | true =>
              have h22 : vals 22 = .bool false := hn 22 (by decide +kernel)
              simp only [h22] at hK ⊢
              refine wpOp_plain rfl rfl (wp_val (w' := W) (v := .bool false) (by go_simp) ?_)
              exact hK _ _ rfl (Below.refl _ _)
      · intro vals W hB hF
        have h23 := hF 23 (by omega)
        simp only [npF] at h23
        simp only [frm_cons, frm_nil, List.set_cons_succ, List.set_cons_zero, Nat.reduceAdd, h23]
        refine wpUpto_done (by decide +kernel) ?_ _
        have H9 := hid hB
        clear hB hF h23 H8
        go_simp
        rcases HE0.out with ⟨rfl, q0⟩ | ⟨z0, rfl, q0⟩
        · rcases HE2.out with ⟨rfl, q2⟩ | ⟨z2, rfl, q2⟩
          · obtain ⟨k1, k2, k3⟩ := HN.out q0 q2
            have hs2 := S02.out
            rw [k1] at hs2
            have hs3 : (x0.toList != x2.toList) = true := by simp [bne, hs2]
            have KA := hid (fun (W : World) (h : Below w.heap.size w W) (r : Rb W W.heap.size A a0) => show Calls Tryd.prog 15 #[.slice A l0 cA] W (fun r w' => r = .returned (.int .i64 2) ∧ Below W.heap.size W w') from by
              have := HK0.out W A cA h r
              rw [k2] at this
              exact this)
            have KC := hid (fun (W : World) (h : Below w.heap.size w W) (r : Rb W W.heap.size C a2) => show Calls Tryd.prog 15 #[.slice C l2 cC] W (fun r w' => r = .returned (.int .i64 3) ∧ Below W.heap.size W w') from by
              have := HK2.out W C cC h r
              rw [k3] at this
              exact this)
            clear k1 k2 k3 q0 q2 HE0 HE2 HN
            go_wp2_with (first
              | (refine wpList_valW (by rfl) (run_conv_str (.tmp 114) rfl a0 x0 A l0 cA rfl X0.out HL0.out (H9.out.ts (A, a0) (by simp))) ?_)
              | (refine wpList_valW (by rfl) (run_conv_str (.tmp 116) rfl a2 x2 C l2 cC rfl X2.out HL2.out (H9.out.ts (C, a2) (by simp))) ?_)
              | (go_at_call 15; (with_reducible refine (KA.out W H9.out.below (H9.out.ts (A, a0) (by simp))).mono ?_); rintro r10 w10 ⟨rfl, hb10⟩; have H10 := hid (H9.out.new hb10); clear hb10)
              | (go_at_call 15; (with_reducible refine (KC.out w10 H10.out.below (H10.out.ts (C, a2) (by simp))).mono ?_); rintro r11 w11 ⟨rfl, hb11⟩; have H11 := hid (H10.out.new hb11); clear hb11))
            go_ret
            exact ⟨rfl, H11.out.below⟩
          · go_wp2
            go_ret
            exact ⟨rfl, H9.out.below⟩
        · go_wp2
          go_ret
          exact ⟨rfl, H9.out.below⟩
    · intro Q0 hQ0
      refine wp_val (HAH.out _ _ V rfl) ?_
      refine hQ0.out _ _ (fun _ => H5.out.new ((Below.refl _ _).alloc (Nat.le_refl _) _)) ?_
      clear hQ0 Q0
      have N1 := hid (At.new V (ubs n32).toArray 29)
      have B1 := hid ((Below.refl V.heap.size V).alloc (Nat.le_refl _) (.cells (ubs n32).toArray 29))
      have Z1 := hid (show (V.alloc (.cells (ubs n32).toArray 29)).heap.size = V.heap.size + 1 by simp)
      generalize V.alloc (.cells (ubs n32).toArray 29) = V1 at N1 B1 Z1 ⊢
      try simp only [Act.put, List.setIfInBounds_toArray]
      refine wpUpto_one (i := 6) rfl (by decide +kernel) rfl ?_
      intro Q0 hQ0
      refine wp_val (HAH.out _ _ V1 rfl) ?_
      have N2 := hid (N1.out.alloc (.cells (ubs n32).toArray 29))
      have M2 := hid (At.new V1 (ubs n32).toArray 29)
      have B2 := hid (B1.out.alloc (by rw [Z1.out]; omega) (.cells (ubs n32).toArray 29))
      refine hQ0.out _ _ (fun _ => H5.out.new B2.out) ?_
      clear hQ0 Q0 N1 B1
      generalize V1.alloc (.cells (ubs n32).toArray 29) = V2 at N2 M2 B2 ⊢
      try simp only [Act.put]
      refine wpUpto_one (i := 8) rfl (by decide +kernel) rfl ?_
      intro Q0 hQ0
      refine wp_store_row 29 (.tmp 11) (.tmp 63) rfl V1.heap.size (ubs d).toArray rfl rfl 29 (ubs n32).toArray M2.out (sizeH_of HDL.out) (by simp [ubs_length, n32_length, HDL.out]) (ubs_all _) ?_
      refine hQ0.out _ _ (fun _ => H5.out.new (below_setRow B2.out (show V.heap.size ≤ V1.heap.size by rw [Z1.out]; omega) _)) ?_
      clear hQ0 Q0
      refine wpUpto_one (i := 9) rfl (by decide +kernel) rfl ?_
      intro Q0 hQ0
      refine wp_store_row 29 (.tmp 12) (.tmp 66) rfl V.heap.size (ubs d').toArray rfl rfl 29 (ubs n32).toArray (N2.out.setRow_far (show V.heap.size ≠ V1.heap.size by rw [Z1.out]; omega)) (sizeH_of HDL'.out) (by simp [ubs_length, n32_length, HDL'.out]) (ubs_all _) ?_
      refine hQ0.out _ _ (fun _ => H5.out.new (below_setRow (below_setRow B2.out (show V.heap.size ≤ V1.heap.size by rw [Z1.out]; omega) _) (Nat.le_refl _) _)) ?_
      clear hQ0 Q0
      refine wpUpto_done (by decide +kernel) ?_ _
      have H6 := hid (H5.out.fill B2.out M2.out N2.out (Ne.symm (show V.heap.size ≠ V1.heap.size by rw [Z1.out]; omega)) (show V.heap.size ≤ V1.heap.size by rw [Z1.out]; omega) (Nat.le_refl _) d d')
      generalize ((V2.setRow V1.heap.size (ubs d).toArray).setRow V.heap.size (ubs d').toArray) = W6 at H6 ⊢
      clear N2 M2 B2 Z1 H5
      generalize V1.heap.size = X at H6 ⊢
      generalize V.heap.size = Y at H6 ⊢
      go_simp
      have n0 := H6.out.n0
      go_wp2_with (first
        | (refine wpList_valW (by rfl) (run_loadH (.tmp 11) rfl X 0 rfl d (range_whole (H6.out.hs (X, d) (by simp))) HDL.out) ?_)
        | (refine wpList_valW (by rfl) (run_loadH (.tmp 12) rfl Y 0 rfl d' (range_whole (H6.out.hs (Y, d') (by simp))) HDL'.out) ?_)
        | (go_at_call 17; (with_reducible refine (HA2.out W6 H6.out.below).mono ?_); rintro r7 w7 ⟨C, cC, rfl, hr7, hb7⟩; have H7 := hid (H6.out.text hb7 hr7); clear hb7 hr7 n0; have n1 := H7.out.n1)
        | (refine wpList_valW (by rfl) (run_loadH (.tmp 11) rfl X 0 rfl d (range_whole (H7.out.hs (X, d) (by simp))) HDL.out) ?_)
        | (refine wpList_valW (by rfl) (run_loadH (.tmp 12) rfl Y 0 rfl d' (range_whole (H7.out.hs (Y, d') (by simp))) HDL'.out) ?_)
        | (go_at_call 17; (with_reducible refine (HA3.out w7 H7.out.below).mono ?_); rintro r8 w8 ⟨D, cD, rfl, hr8, hb8⟩; have H8 := hid (H7.out.text hb8 hr8); clear hb8 hr8 n1))
      clear H6 H7
      try simp only [Act.put, List.setIfInBounds_toArray, List.set_cons_succ, List.set_cons_zero]
      refine wp_region_facts 24 24 [83, 84, 85, 86, 87, 88, 89, 90, 91, 92, 93, 94, 95, 96, 97, 98, 99, 100, 101, 102, 103, 104, 105, 106] (fun k v _ => v = npF (E2) (E3) g2 g3 p2 s2 (.slice C l2 cC) (.slice D l3 cD) x2 x3 (.pointer (some ⟨w.heap.size + 1 + 1, 0, none⟩)) (.int .i64 m) (.pointer (some ⟨w.heap.size + 1 + 1, 1, none⟩)) (.int .i64 n) [.agg (ubs d).toArray, .agg (ubs d').toArray, .bool s2] (a2 == a3) k) (NpW w i j xs m n [(X, d), (Y, d')] [(D, a3), (C, a2), (B, a1), (A, a0)]) (by kernel_rfl) (by kernel_rfl)
        (fun W W' h hb => h.new hb) (fun _ _ _ _ h _ => h) (H8.out.drew) ?_ ?_
      · intro i hi vals W K hB hn hK
        simp only [frm_cons, frm_nil, List.set_cons_succ, List.set_cons_zero, Nat.reduceAdd] at hK ⊢
        rcases (by omega : i = 0 ∨ i = 1 ∨ i = 2 ∨ i = 3 ∨ i = 4 ∨ i = 5 ∨ i = 6 ∨ i = 7 ∨ i = 8 ∨ i = 9 ∨ i = 10 ∨ i = 11 ∨ i = 12 ∨ i = 13 ∨ i = 14 ∨ i = 15 ∨ i = 16 ∨ i = 17 ∨ i = 18 ∨ i = 19 ∨ i = 20 ∨ i = 21 ∨ i = 22 ∨ i = 23) with rfl | rfl | rfl | rfl | rfl | rfl | rfl | rfl | rfl | rfl | rfl | rfl | rfl | rfl | rfl | rfl | rfl | rfl | rfl | rfl | rfl | rfl | rfl | rfl
        · refine wpOp_plain rfl rfl (wp_val (w' := W) (v := E2) (by go_simp) ?_)
          exact hK _ _ rfl (Below.refl _ _)
        · have h0 := hn 0 (by decide +kernel)
          simp only [npF] at h0
          simp only [h0] at hK ⊢
          refine wpOp_plain rfl rfl (wp_val (run_eqlE _ 83 rfl E2 g2 rfl HE2.out W) ?_)
          exact hK _ _ rfl (Below.refl _ _)
        · have h1 := hn 1 (by decide +kernel)
          simp only [npF] at h1
          simp only [h1] at hK ⊢
          refine wpOp_plain rfl rfl (wp_val (w' := W) (v := .bool g2) (by go_simp) ?_)
          exact hK _ _ rfl (Below.refl _ _)
        · have h2 := hn 2 (by decide +kernel)
          simp only [npF] at h2
          simp only [h2] at hK ⊢
          cases g2 with
          | false =>
            refine wpOp_off rfl (by rfl) ?_
            exact hK _ _ rfl (Below.refl _ _)
          | true =>
            refine wpOp_on rfl (by rfl) (wp_val (w' := W) (v := E3) (by go_simp) ?_)
            exact hK _ _ rfl (Below.refl _ _)
        · have h2 := hn 2 (by decide +kernel)
          simp only [npF] at h2
          simp only [h2] at hK ⊢
          cases g2 with
          | false =>
            refine wpOp_off rfl (by rfl) ?_
            exact hK _ _ rfl (Below.refl _ _)
          | true =>
            have h3 : vals 3 = E3 := hn 3 (by decide +kernel)
            simp only [h3] at hK ⊢
            refine wpOp_on rfl (by rfl) (wp_val (run_eqlE _ 86 rfl E3 g3 rfl HE3.out W) ?_)
            exact hK _ _ rfl (Below.refl _ _)
        · have h2 := hn 2 (by decide +kernel)
          simp only [npF] at h2
          simp only [h2] at hK ⊢
          cases g2 with
          | false =>
            refine wpOp_plain rfl rfl (wp_val (w' := W) (v := .bool false) (by go_simp) ?_)
            exact hK _ _ rfl (Below.refl _ _)
          | true =>
            have h4 : vals 4 = .bool g3 := hn 4 (by decide +kernel)
            simp only [h4] at hK ⊢
            refine wpOp_plain rfl rfl (wp_val (w' := W) (v := .bool g3) (by go_simp) ?_)
            exact hK _ _ rfl (Below.refl _ _)
        · have h5 := hn 5 (by decide +kernel)
          simp only [npF] at h5
          simp only [h5] at hK ⊢
          refine wpOp_plain rfl rfl (wp_val (w' := W) (v := .bool (g2 && g3)) (by go_simp) ?_)
          exact hK _ _ rfl (Below.refl _ _)
        · have h6 := hn 6 (by decide +kernel)
          simp only [npF] at h6
          simp only [h6] at hK ⊢
          cases g2 with
          | false =>
            refine wpOp_off rfl (by rfl) ?_
            exact hK _ _ rfl (Below.refl _ _)
          | true =>
            cases g3 with
            | false =>
              refine wpOp_off rfl (by rfl) ?_
              exact hK _ _ rfl (Below.refl _ _)
            | true =>
              refine wpOp_on rfl (by rfl) (wp_val (w' := W) (v := .slice C l2 cC) (by go_simp) ?_)
              exact hK _ _ rfl (Below.refl _ _)
        · have h6 := hn 6 (by decide +kernel)
          simp only [npF] at h6
          simp only [h6] at hK ⊢
          cases g2 with
          | false =>
            refine wpOp_off rfl (by rfl) ?_
            exact hK _ _ rfl (Below.refl _ _)
          | true =>
            cases g3 with
            | false =>
              refine wpOp_off rfl (by rfl) ?_
              exact hK _ _ rfl (Below.refl _ _)
            | true =>
              have h7 : vals 7 = .slice C l2 cC := hn 7 (by decide +kernel)
              simp only [h7] at hK ⊢
              refine wpOp_on rfl (by rfl) (wp_val (run_conv_str (.tmp 90) rfl a2 x2 C l2 cC rfl X2.out HL2.out (hB.ts (C, a2) (by simp))) ?_)
              exact hK _ _ rfl (Below.refl _ _)
        · have h6 := hn 6 (by decide +kernel)
          simp only [npF] at h6
          simp only [h6] at hK ⊢
          cases g2 with
          | false =>
            refine wpOp_off rfl (by rfl) ?_
            exact hK _ _ rfl (Below.refl _ _)
          | true =>
            cases g3 with
            | false =>
              refine wpOp_off rfl (by rfl) ?_
              exact hK _ _ rfl (Below.refl _ _)
            | true =>
              refine wpOp_on rfl (by rfl) (wp_val (w' := W) (v := .slice D l3 cD) (by go_simp) ?_)
              exact hK _ _ rfl (Below.refl _ _)
        · have h6 := hn 6 (by decide +kernel)
          simp only [npF] at h6
          simp only [h6] at hK ⊢
          cases g2 with
          | false =>
            refine wpOp_off rfl (by rfl) ?_
            exact hK _ _ rfl (Below.refl _ _)
          | true =>
            cases g3 with
            | false =>
              refine wpOp_off rfl (by rfl) ?_
              exact hK _ _ rfl (Below.refl _ _)
            | true =>
              have h9 : vals 9 = .slice D l3 cD := hn 9 (by decide +kernel)
              simp only [h9] at hK ⊢
              refine wpOp_on rfl (by rfl) (wp_val (run_conv_str (.tmp 92) rfl a3 x3 D l3 cD rfl X3.out HL3.out (hB.ts (D, a3) (by simp))) ?_)
              exact hK _ _ rfl (Below.refl _ _)
        · have h6 := hn 6 (by decide +kernel)
          simp only [npF] at h6
          simp only [h6] at hK ⊢
          cases g2 with
          | false =>
            refine wpOp_off rfl (by rfl) ?_
            exact hK _ _ rfl (Below.refl _ _)
          | true =>
            cases g3 with
            | false =>
              refine wpOp_off rfl (by rfl) ?_
              exact hK _ _ rfl (Below.refl _ _)
            | true =>
              have h8 : vals 8 = .string x2 := hn 8 (by decide +kernel)
              have h10 : vals 10 = .string x3 := hn 10 (by decide +kernel)
              simp only [h8, h10] at hK ⊢
              have hq := S23.out
              refine wpOp_on rfl (by rfl) (wp_val (w' := W) (v := .bool (a2 == a3)) (by go_simp) ?_)
              exact hK _ _ rfl (Below.refl _ _)
        · have h6 := hn 6 (by decide +kernel)
          simp only [npF] at h6
          simp only [h6] at hK ⊢
          cases g2 with
          | false =>
            refine wpOp_off rfl (by rfl) ?_
            exact hK _ _ rfl (Below.refl _ _)
          | true =>
            cases g3 with
            | false =>
              refine wpOp_off rfl (by rfl) ?_
              exact hK _ _ rfl (Below.refl _ _)
            | true =>
              refine wpOp_on rfl (by rfl) (wp_val (w' := W) (v := .pointer (some ⟨w.heap.size + 1 + 1, 0, none⟩)) (by go_simp) ?_)
              exact hK _ _ rfl (Below.refl _ _)
        · have h6 := hn 6 (by decide +kernel)
          simp only [npF] at h6
          simp only [h6] at hK ⊢
          cases g2 with
          | false =>
            refine wpOp_off rfl (by rfl) ?_
            exact hK _ _ rfl (Below.refl _ _)
          | true =>
            cases g3 with
            | false =>
              refine wpOp_off rfl (by rfl) ?_
              exact hK _ _ rfl (Below.refl _ _)
            | true =>
              have h12 : vals 12 = .pointer (some ⟨w.heap.size + 1 + 1, 0, none⟩) := hn 12 (by decide +kernel)
              simp only [h12] at hK ⊢
              have q := hB.n0
              refine wpOp_on rfl (by rfl) (wp_val (w' := W) (v := .int .i64 m) (by go_simp) ?_)
              exact hK _ _ rfl (Below.refl _ _)
        · have h6 := hn 6 (by decide +kernel)
          simp only [npF] at h6
          simp only [h6] at hK ⊢
          cases g2 with
          | false =>
            refine wpOp_off rfl (by rfl) ?_
            exact hK _ _ rfl (Below.refl _ _)
          | true =>
            cases g3 with
            | false =>
              refine wpOp_off rfl (by rfl) ?_
              exact hK _ _ rfl (Below.refl _ _)
            | true =>
              refine wpOp_on rfl (by rfl) (wp_val (w' := W) (v := .pointer (some ⟨w.heap.size + 1 + 1, 1, none⟩)) (by go_simp) ?_)
              exact hK _ _ rfl (Below.refl _ _)
        · have h6 := hn 6 (by decide +kernel)
          simp only [npF] at h6
          simp only [h6] at hK ⊢
          cases g2 with
          | false =>
            refine wpOp_off rfl (by rfl) ?_
            exact hK _ _ rfl (Below.refl _ _)
          | true =>
            cases g3 with
            | false =>
              refine wpOp_off rfl (by rfl) ?_
              exact hK _ _ rfl (Below.refl _ _)
            | true =>
              have h14 : vals 14 = .pointer (some ⟨w.heap.size + 1 + 1, 1, none⟩) := hn 14 (by decide +kernel)
              simp only [h14] at hK ⊢
              have q := hB.n1
              refine wpOp_on rfl (by rfl) (wp_val (w' := W) (v := .int .i64 n) (by go_simp) ?_)
              exact hK _ _ rfl (Below.refl _ _)
        · have h6 := hn 6 (by decide +kernel)
          simp only [npF] at h6
          simp only [h6] at hK ⊢
          cases g2 with
          | false =>
            refine wpOp_off rfl (by rfl) ?_
            exact hK _ _ rfl (Below.refl _ _)
          | true =>
            cases g3 with
            | false =>
              refine wpOp_off rfl (by rfl) ?_
              exact hK _ _ rfl (Below.refl _ _)
            | true =>
              have h13 : vals 13 = .int .i64 m := hn 13 (by decide +kernel)
              have h15 : vals 15 = .int .i64 n := hn 15 (by decide +kernel)
              simp only [h13, h15] at hK ⊢
              have pp := HP2.out.symm
              refine wpOp_on rfl (by rfl) (wp_val (w' := W) (v := .bool p2) (by go_simp) ?_)
              exact hK _ _ rfl (Below.refl _ _)
        · have h6 := hn 6 (by decide +kernel)
          simp only [npF] at h6
          simp only [h6] at hK ⊢
          cases g2 with
          | false =>
            refine wpOp_off rfl (by rfl) ?_
            exact hK _ _ rfl (Below.refl _ _)
          | true =>
            cases g3 with
            | false =>
              refine wpOp_off rfl (by rfl) ?_
              exact hK _ _ rfl (Below.refl _ _)
            | true =>
              have h16 : vals 16 = .bool p2 := hn 16 (by decide +kernel)
              simp only [h16] at hK ⊢
              refine wpOp_on rfl (by rfl) (wp_val (w' := W) (v := .bool p2) (by go_simp) ?_)
              exact hK _ _ rfl (Below.refl _ _)
        · cases g2 with
          | false =>
            have h17 : vals 17 = undef := hn 17 (by decide +kernel)
            simp only [h17] at hK ⊢
            refine wpOp_off rfl (by rfl) ?_
            exact hK _ _ rfl (Below.refl _ _)
          | true =>
            cases g3 with
            | false =>
              have h17 : vals 17 = undef := hn 17 (by decide +kernel)
              simp only [h17] at hK ⊢
              refine wpOp_off rfl (by rfl) ?_
              exact hK _ _ rfl (Below.refl _ _)
            | true =>
              cases p2 with
              | false =>
                have h17 : vals 17 = .bool false := hn 17 (by decide +kernel)
                simp only [h17] at hK ⊢
                refine wpOp_off rfl (by rfl) ?_
                exact hK _ _ rfl (Below.refl _ _)
              | true =>
                have h17 : vals 17 = .bool true := hn 17 (by decide +kernel)
                simp only [h17] at hK ⊢
                refine wpOp_on rfl (by rfl) (wp_val (run_loadH (.tmp 11) rfl X 0 rfl d (range_whole (hB.hs (X, d) (by simp))) HDL.out) ?_)
                exact hK _ _ rfl (Below.refl _ _)
        · cases g2 with
          | false =>
            have h17 : vals 17 = undef := hn 17 (by decide +kernel)
            simp only [h17] at hK ⊢
            refine wpOp_off rfl (by rfl) ?_
            exact hK _ _ rfl (Below.refl _ _)
          | true =>
            cases g3 with
            | false =>
              have h17 : vals 17 = undef := hn 17 (by decide +kernel)
              simp only [h17] at hK ⊢
              refine wpOp_off rfl (by rfl) ?_
              exact hK _ _ rfl (Below.refl _ _)
            | true =>
              cases p2 with
              | false =>
                have h17 : vals 17 = .bool false := hn 17 (by decide +kernel)
                simp only [h17] at hK ⊢
                refine wpOp_off rfl (by rfl) ?_
                exact hK _ _ rfl (Below.refl _ _)
              | true =>
                have h17 : vals 17 = .bool true := hn 17 (by decide +kernel)
                simp only [h17] at hK ⊢
                refine wpOp_on rfl (by rfl) (wp_val (run_loadH (.tmp 12) rfl Y 0 rfl d' (range_whole (hB.hs (Y, d') (by simp))) HDL'.out) ?_)
                exact hK _ _ rfl (Below.refl _ _)
        · cases g2 with
          | false =>
            have h17 : vals 17 = undef := hn 17 (by decide +kernel)
            simp only [h17] at hK ⊢
            refine wpOp_off rfl (by rfl) ?_
            exact hK _ _ rfl (Below.refl _ _)
          | true =>
            cases g3 with
            | false =>
              have h17 : vals 17 = undef := hn 17 (by decide +kernel)
              simp only [h17] at hK ⊢
              refine wpOp_off rfl (by rfl) ?_
              exact hK _ _ rfl (Below.refl _ _)
            | true =>
              cases p2 with
              | false =>
                have h17 : vals 17 = .bool false := hn 17 (by decide +kernel)
                simp only [h17] at hK ⊢
                refine wpOp_off rfl (by rfl) ?_
                exact hK _ _ rfl (Below.refl _ _)
              | true =>
                have h17 : vals 17 = .bool true := hn 17 (by decide +kernel)
                simp only [h17] at hK ⊢
                have h18 : vals 18 = .agg (ubs d).toArray := hn 18 (by decide +kernel)
                have h19 : vals 19 = .agg (ubs d').toArray := hn 19 (by decide +kernel)
                simp only [h18, h19] at hK ⊢
                refine wpOp_on rfl (by rfl) (wp_val (run_eqlH _ (.tmp 101) (.tmp 102) rfl d d' HDL.out HDL'.out rfl rfl s2 HS2.out.symm W) ?_)
                exact hK _ _ rfl (Below.refl _ _)
        · have h6 := hn 6 (by decide +kernel)
          simp only [npF] at h6
          simp only [h6] at hK ⊢
          cases g2 with
          | false =>
            refine wpOp_off rfl (by rfl) ?_
            exact hK _ _ rfl (Below.refl _ _)
          | true =>
            cases g3 with
            | false =>
              refine wpOp_off rfl (by rfl) ?_
              exact hK _ _ rfl (Below.refl _ _)
            | true =>
              cases p2 with
              | false =>
                have h17 : vals 17 = .bool false := hn 17 (by decide +kernel)
                simp only [h17] at hK ⊢
                refine wpOp_on rfl (by rfl) (wp_val (w' := W) (v := .bool false) (by go_simp) ?_)
                exact hK _ _ rfl (Below.refl _ _)
              | true =>
                have h17 : vals 17 = .bool true := hn 17 (by decide +kernel)
                have h20 : vals 20 = .bool s2 := hn 20 (by decide +kernel)
                simp only [h17, h20] at hK ⊢
                refine wpOp_on rfl (by rfl) (wp_val (w' := W) (v := .bool s2) (by go_simp) ?_)
                exact hK _ _ rfl (Below.refl _ _)
        · have h6 := hn 6 (by decide +kernel)
          simp only [npF] at h6
          simp only [h6] at hK ⊢
          cases g2 with
          | false =>
            refine wpOp_off rfl (by rfl) ?_
            exact hK _ _ rfl (Below.refl _ _)
          | true =>
            cases g3 with
            | false =>
              refine wpOp_off rfl (by rfl) ?_
              exact hK _ _ rfl (Below.refl _ _)
            | true =>
              have h11 : vals 11 = .bool (a2 == a3) := hn 11 (by decide +kernel)
              have h21 : vals 21 = .bool (p2 && s2) := hn 21 (by decide +kernel)
              simp only [h11, h21] at hK ⊢
              have hz := HQ2.out rfl rfl
              have hz2 : ((a2 == a3) != (p2 && s2)) = false := by rw [hz]; simp
              refine wpOp_on rfl (by rfl) (wp_val (w' := W) (v := .bool false) (by go_simp) ?_)
              exact hK _ _ rfl (Below.refl _ _)
        · have h6 := hn 6 (by decide +kernel)
          simp only [npF] at h6
          simp only [h6] at hK ⊢
          cases g2 with
          | false =>
            refine wpOp_plain rfl rfl (wp_val (w' := W) (v := .bool false) (by go_simp) ?_)
            exact hK _ _ rfl (Below.refl _ _)
          | true =>
            cases g3 with
            | false =>
              refine wpOp_plain rfl rfl (wp_val (w' := W) (v := .bool false) (by go_simp) ?_)
              exact hK _ _ rfl (Below.refl _ _)
            | true =>
              have h22 : vals 22 = .bool false := hn 22 (by decide +kernel)
              simp only [h22] at hK ⊢
              refine wpOp_plain rfl rfl (wp_val (w' := W) (v := .bool false) (by go_simp) ?_)
              exact hK _ _ rfl (Below.refl _ _)
      · intro vals W hB hF
        have h23 := hF 23 (by omega)
        simp only [npF] at h23
        simp only [frm_cons, frm_nil, List.set_cons_succ, List.set_cons_zero, Nat.reduceAdd, h23]
        refine wpUpto_done (by decide +kernel) ?_ _
        have H9 := hid hB
        clear hB hF h23 H8
        go_simp
        rcases HE0.out with ⟨rfl, q0⟩ | ⟨z0, rfl, q0⟩
        · rcases HE2.out with ⟨rfl, q2⟩ | ⟨z2, rfl, q2⟩
          · obtain ⟨k1, k2, k3⟩ := HN.out q0 q2
            have hs2 := S02.out
            rw [k1] at hs2
            have hs3 : (x0.toList != x2.toList) = true := by simp [bne, hs2]
            have KA := hid (fun (W : World) (h : Below w.heap.size w W) (r : Rb W W.heap.size A a0) => show Calls Tryd.prog 15 #[.slice A l0 cA] W (fun r w' => r = .returned (.int .i64 2) ∧ Below W.heap.size W w') from by
              have := HK0.out W A cA h r
              rw [k2] at this
              exact this)
            have KC := hid (fun (W : World) (h : Below w.heap.size w W) (r : Rb W W.heap.size C a2) => show Calls Tryd.prog 15 #[.slice C l2 cC] W (fun r w' => r = .returned (.int .i64 3) ∧ Below W.heap.size W w') from by
              have := HK2.out W C cC h r
              rw [k3] at this
              exact this)
            clear k1 k2 k3 q0 q2 HE0 HE2 HN
            go_wp2_with (first
              | (refine wpList_valW (by rfl) (run_conv_str (.tmp 114) rfl a0 x0 A l0 cA rfl X0.out HL0.out (H9.out.ts (A, a0) (by simp))) ?_)
              | (refine wpList_valW (by rfl) (run_conv_str (.tmp 116) rfl a2 x2 C l2 cC rfl X2.out HL2.out (H9.out.ts (C, a2) (by simp))) ?_)
              | (go_at_call 15; (with_reducible refine (KA.out W H9.out.below (H9.out.ts (A, a0) (by simp))).mono ?_); rintro r10 w10 ⟨rfl, hb10⟩; have H10 := hid (H9.out.new hb10); clear hb10)
              | (go_at_call 15; (with_reducible refine (KC.out w10 H10.out.below (H10.out.ts (C, a2) (by simp))).mono ?_); rintro r11 w11 ⟨rfl, hb11⟩; have H11 := hid (H10.out.new hb11); clear hb11))
            go_ret
            exact ⟨rfl, H11.out.below⟩
          · go_wp2
            go_ret
            exact ⟨rfl, H9.out.below⟩
        · go_wp2
          go_ret
          exact ⟨rfl, H9.out.below⟩
end Go.Proofs.YthbppiobadcbkaaDoor
