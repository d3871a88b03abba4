/-
  Layer 13, the document's side: Text, Put, Tag.
  Layer 13, the document's side: Put, Tag.
-/
import Derived.Test.YtfmbpdjcoopaeaaDoorMA
import Derived.Test.YtfmbpdjcoopaeaaDoorV3
namespace Go.Proofs.YtfmbpdjcoopaeaaDoor
open Go.RowKit

/-- What a text that grows beside a row has in memory. -/
structure TxW (w : World) (C : List Value) (T : TypeId) (v : Value) (bs : List UInt8) (V : World) : Prop where
  bl : Below w.heap.size w V
  c : At V w.heap.size C.toArray T
  o : V.ownsRow (w.heap.size + 1) 5 1 v bs.length (ubs bs)
  z : w.heap.size + 1 ≤ V.heap.size
section
variable {w V V' : World} {C : List Value} {T : TypeId} {v v' : Value} {bs : List UInt8}
theorem TxW.new (k : TxW w C T v bs V) (hb : Below V.heap.size V V') : TxW w C T v bs V' :=
  ⟨k.bl.trans (hb.mono k.bl.size), k.c.new_ hb, own_fr k.o (Fr.of_new (S := fun _ => False) hb) (fun _ _ => id), Nat.le_trans k.z hb.size⟩
theorem TxW.form (k : TxW w C T v bs V) : ∃ A c, v = .slice A bs.length c := by
  obtain ⟨A, c, e, -⟩ := own_form k.o
  exact ⟨A, c, e⟩
theorem TxW.first {g : Nat} (hb : Below w.heap.size w V) (hc : At V w.heap.size C.toArray T) (h : At V g (ubs bs).toArray 5) (hg : w.heap.size + 1 ≤ g) (hl : bs.length ≤ 1000000) : TxW w C T (.slice (some ⟨g, 0, none⟩) bs.length bs.length) bs V :=
  ⟨hb, hc, ⟨by rw [ubs_length, Nat.mul_one], .inr ⟨g, bs.length, (ubs bs).toArray, rfl, hg, h, Nat.le_refl _, by unfold maxLen; omega, by simp [ubs_length], by rw [List.take_of_length_le (by simp [ubs_length])]⟩⟩, by have := h.lt; omega⟩
end
/-- Bytes are appended to a text. -/
theorem wp_append_tx {w W : World} {C : List Value} {T : TypeId} {v : Value} {bs : List UInt8} {o : Oper} {a : Go.Act} {K : Go.Act → World → Prop} {Q : Exit → Go.Act → World → Prop} (d : Tmp) (hd : o.dst = some d) (s x : Operand)
    (ho : o.op = .call { callee := .builtin .append, args := #[s, x], argTypes := #[22, 22] }) (k : TxW w C T v bs W) (hs : a.eval s = v) (B : Nat) (A : Option Addr) (m c : Nat) (xs : List UInt8) (hx : a.eval x = .slice A m c) (hm : xs.length = m) (hr : Rb W B A xs) (hl : bs.length + m ≤ 1000000)
    (h : ∀ v' w', TxW w C T v' (bs ++ xs) w' → K (a.put (some d) v') w') : o.wp Tryd.prog a W K Q := by
  obtain ⟨i0, hi0, hz0, hz1, hz2⟩ := info_parts infoB
  refine wp_append_rd s x _ ho (w.heap.size + 1) 5 i0 (.int .u8 0) 1 Tryd.underlying22 hi0 hz0 hz1 hz2 rfl v bs.length (ubs bs) hs k.o B A m c (ubs xs) hx (by rw [ubs_length, hm]) hr (ubs_one _) (by unfold maxLen; omega) (by omega) k.z ?_
  intro v' w' h1 h2 h3
  rw [hd]
  refine h v' w' ⟨k.bl.grown h2 k.bl.size (fun r e => by have := (World.ownsRow.lt k.o r e).1; omega), at_free k.c (B := w.heap.size + 1) (by omega) h2 (fun r e => (World.ownsRow.lt k.o r e).1), ?_, Nat.le_trans k.z h2.size⟩
  rw [ubs_append, List.length_append, hm]
  exact h1
theorem wpList_append_tx {w W : World} {C : List Value} {T : TypeId} {v : Value} {bs : List UInt8} {ops : Array Oper} {rest : List Oper} {o : Oper} {a : Go.Act} {Q : Exit → Go.Act → World → Prop} (hw : Region.wanted o (yielded ops a.tmps) = true) (d : Tmp) (hd : o.dst = some d) (s x : Operand)
    (ho : o.op = .call { callee := .builtin .append, args := #[s, x], argTypes := #[22, 22] }) (k : TxW w C T v bs W) (hs : a.eval s = v) (B : Nat) (A : Option Addr) (m c : Nat) (xs : List UInt8) (hx : a.eval x = .slice A m c) (hm : xs.length = m) (hr : Rb W B A xs) (hl : bs.length + m ≤ 1000000)
    (h : ∀ v' w', TxW w C T v' (bs ++ xs) w' → wpList Tryd.prog ops Q rest (a.put (some d) v') w') : wpList Tryd.prog ops Q (o :: rest) a W :=
  BigFrame.wpList_want hw fun _ hK => wp_append_tx d hd s x ho k hs B A m c xs hx hm hr hl fun v' w' h1 => hK _ _ (h v' w' h1)
theorem kb_three {kb : UInt8} (h : kb = 1 ∨ kb = 2) : ¬ ((kb.toNat : Int) = 3) := by
  rcases h with rfl | rfl
  · decide
  · decide
theorem len_num (l : List Nat) (s : Nat) : (l.flatMap (toBE s)).length = s * l.length := by
  induction l with
  | nil => rfl
  | cons x l ih => rw [List.flatMap_cons, List.length_append, toBE_length, ih, List.length_cons, Nat.mul_succ, Nat.add_comm]
theorem putS_length {x : Sl13} (h : okS x) : (putS x).length = 56 := putL_length _ _ _ h.2.1 h.2.2
theorem len_put {l : List Sl13} (h : ∀ x ∈ l, okS x) : (l.flatMap putS).length = 56 * l.length := by
  induction l with
  | nil => rfl
  | cons x l ih => rw [List.flatMap_cons, List.length_append, putS_length (h x (by simp)), ih (fun y hy => h y (by simp [hy])), List.length_cons, Nat.mul_succ, Nat.add_comm]
set_option maxRecDepth 100000 in
set_option maxHeartbeats 4000000 in
theorem textR_three (t : Tk13) (AI AS : Option Addr) (cI cS : Nat) (w : World) (hk : okT t) (hm : OrI w w.heap.size t.o AI AS cI cS) (h3 : t.o.kind = 3) :
    Calls Tryd.prog 124 #[.agg (tkV t AI AS cI cS).toArray] w fun r w' => ∃ v, r = .returned v ∧ TxW w (tkV t AI AS cI cS) 107 v (textT t) w' := by
  obtain ⟨p, e, ⟨kd, l, s, b⟩, tg⟩ := t
  obtain ⟨C, hC⟩ : ∃ C, C = tkV ⟨p, e, ⟨kd, l, s, b⟩, tg⟩ AI AS cI cS := ⟨_, rfl⟩
  obtain ⟨n, hnn⟩ : ∃ n, n = l.length := ⟨_, rfl⟩
  obtain ⟨m, hmm⟩ : ∃ n, n = s.length := ⟨_, rfl⟩
  have HPC := hid (fun (V : World) (x : At V w.heap.size C.toArray 107) => show (V.cell? ⟨w.heap.size, 0, none⟩ = some (.int .u64 (p : Int)) ∧ V.cell? ⟨w.heap.size, 1, none⟩ = some (.int .u64 (e : Int))) ∧ V.cell? ⟨w.heap.size, 2, none⟩ = some (.int .i64 kd) ∧ V.cell? ⟨w.heap.size, 3, none⟩ = some (.slice AI n cI) ∧ V.cell? ⟨w.heap.size, 4, none⟩ = some (.slice AS m cS) ∧ V.cell? ⟨w.heap.size, 5, none⟩ = some (.int .u64 (b : Int)) from by
    rw [hC] at x
    rw [hnn, hmm]
    exact tkV_cells x)
  have HPR := hid (show p < 18446744073709551616 from hk.1)
  have HER := hid (show e < 18446744073709551616 from hk.2.1)
  have HBR := hid (show b < 18446744073709551616 from hk.2.2.1.2.2)
  have HN8 := hid (fun (n : Nat) (hn : n < 18446744073709551616) (W : World) => show Calls Tryd.prog 94 #[.int .u64 (n : Int), .int .i64 8] W (fun e' w' => ∃ g, e' = .returned (.slice (some ⟨g, 0, none⟩) 8 8) ∧ At w' g (ubs (toBE 8 n)).toArray 5 ∧ W.heap.size ≤ g ∧ Below W.heap.size W w') from numberR_any n 8 W hn (by omega))
  obtain rfl : kd = 3 := h3
  have HTX := hid (show textT ⟨p, e, ⟨3, l, s, b⟩, tg⟩ = toBE 8 p ++ toBE 8 e ++ [3] ++ toBE 8 b by
    unfold textT bodyT
    rw [if_pos rfl]
    simp [toBE_one])
  rw [HTX.out, ← hC]
  clear hC hk hm hnn hmm HTX
  have K0 := hid (At.new w C.toArray 107)
  go_enter Tryd.func124, Tryd.ntmps124
  go_upto_region 1 with fail
  have B0 := hid (show Below w.heap.size w (w.alloc (.cells C.toArray 107)).drew from ((Below.refl _ _).alloc (Nat.le_refl _) _).drew)
  have C0 := hid (show At (w.alloc (.cells C.toArray 107)).drew w.heap.size C.toArray 107 from At.new _ _ _)
  have Z0 := hid (show w.heap.size + 1 ≤ (w.alloc (.cells C.toArray 107)).drew.heap.size from Nat.le_of_eq (World.size_alloc _ _).symm)
  refine wp_region_upto (fun W => At W w.heap.size C.toArray 107) 8 8 (by kernel_rfl) (by kernel_rfl) ?_
  try simp only [Act.put, List.setIfInBounds_toArray, List.set_cons_succ, List.set_cons_zero]
  generalize (w.alloc (.cells C.toArray 107)).drew = w0 at B0 C0 Z0 ⊢
  refine wpUpto_takeL (i := 0) (v := .pointer (some ⟨w.heap.size, 0, none⟩)) rfl rfl (by decide +kernel) (by decide +kernel) (by decide +kernel) (by decide +kernel) (by decide) (fun _ _ _ h => h) (Or.inl ⟨by rfl, ?_⟩) C0.out ?_
  · (intro W hSW; go_simp)
  simp only [List.set_cons_succ, List.set_cons_zero]
  refine wpUpto_takeL (i := 3) (v := .pointer (some ⟨w.heap.size, 1, none⟩)) rfl rfl (by decide +kernel) (by decide +kernel) (by decide +kernel) (by decide +kernel) (by decide) (fun _ _ _ h => h) (Or.inl ⟨by rfl, ?_⟩) C0.out ?_
  · (intro W hSW; go_simp)
  simp only [List.set_cons_succ, List.set_cons_zero]
  refine wpUpto_takeL (i := 1) (v := .int .u64 (p : Int)) rfl rfl (by decide +kernel) (by decide +kernel) (by decide +kernel) (by decide +kernel) (by decide) (fun _ _ _ h => h) (Or.inl ⟨by rfl, ?_⟩) C0.out ?_
  · (intro W hSW; have q := (HPC.out W hSW).1.1; go_simp)
  simp only [List.set_cons_succ, List.set_cons_zero]
  refine wpUpto_takeL (i := 4) (v := .int .u64 (e : Int)) rfl rfl (by decide +kernel) (by decide +kernel) (by decide +kernel) (by decide +kernel) (by decide) (fun _ _ _ h => h) (Or.inl ⟨by rfl, ?_⟩) C0.out ?_
  · (intro W hSW; have q := (HPC.out W hSW).1.2; go_simp)
  simp only [List.set_cons_succ, List.set_cons_zero]
  refine wpUpto_one (i := 2) rfl (by decide +kernel) rfl ?_
  intro Q0 hQ0
  go_simp
  go_at_call 94
  refine (HN8.out p HPR.out w0).mono ?_
  rintro r1 w1 ⟨g1, rfl, hA1, hg1, hb1⟩
  have T1 := hid (TxW.first (T := 107) (B0.out.trans (hb1.mono B0.out.size)) (C0.out.new_ hb1) hA1 (Nat.le_trans Z0.out hg1) (by rw [toBE_length]; omega))
  rw [toBE_length] at T1
  refine hQ0.out _ _ (fun _ => T1.out.c) ?_
  clear hQ0 Q0 hA1 hg1 hb1 B0 C0 Z0
  try simp only [Act.put, List.setIfInBounds_toArray, List.set_cons_succ, List.set_cons_zero]
  refine wpUpto_one (i := 5) rfl (by decide +kernel) rfl ?_
  intro Q0 hQ0
  go_simp
  go_at_call 94
  refine (HN8.out e HER.out w1).mono ?_
  rintro r2 w2 ⟨g2, rfl, hA2, hg2, hb2⟩
  have T2 := hid (T1.out.new hb2)
  have R2 := hid (rb_at hA2)
  refine hQ0.out _ _ (fun _ => T2.out.c) ?_
  clear hQ0 Q0 hA2 hg2 hb2 T1
  try simp only [Act.put, List.setIfInBounds_toArray, List.set_cons_succ, List.set_cons_zero]
  refine wpUpto_one (i := 6) rfl (by decide +kernel) rfl ?_
  intro Q0 hQ0
  refine wp_append_tx 12 rfl (.tmp 8) (.tmp 11) rfl T2.out rfl w2.heap.size (some ⟨g2, 0, none⟩) 8 8 (toBE 8 e) rfl (toBE_length 8 e) R2.out (by rw [toBE_length]; omega) ?_
  intro v3 w3 h3
  have T3 := hid h3
  refine hQ0.out _ _ (fun _ => T3.out.c) ?_
  clear hQ0 Q0 T2 R2 h3
  try simp only [Act.put, List.setIfInBounds_toArray, List.set_cons_succ, List.set_cons_zero]
  refine wpUpto_takeL (i := 7) (v := v3) rfl rfl (by decide +kernel) (by decide +kernel) (by decide +kernel) (by decide +kernel) (by decide) (fun _ _ _ h => h) (Or.inl ⟨by rfl, ?_⟩) T3.out.c ?_
  · (intro W hSW; go_simp)
  simp only [List.set_cons_succ, List.set_cons_zero]
  refine wpUpto_done (by decide +kernel) ?_ _
  go_simp
  obtain ⟨⟨c0, c1⟩, c2, c3, c4, c5⟩ := HPC.out _ T3.out.c
  have TK := hid (show TxW w C 107 v3 (toBE 8 p ++ toBE 8 e) (w3.alloc (.cells #[.int .u8 ((3 : UInt8).toNat : Int)] 5)) from T3.out.new ((Below.refl _ _).alloc (Nat.le_refl _) _))
  have RK := hid (rb_one w3 3)
  go_upto_region 3 with (first
    | (refine wpList_append_tx (by rfl) 19 rfl (.tmp 13) (.tmp 18) rfl TK.out rfl (w3.heap.size + 1) (some ⟨w3.heap.size, 0, none⟩) 1 1 [3] rfl rfl RK.out (by simp [toBE_length]) ?_; intro v4 w4 h4; have T4 := hid h4; clear h4))
  clear TK RK
  clear c0 c1 c2 c3 c4 c5
  obtain ⟨⟨c0, c1⟩, c2, c3, c4, c5⟩ := HPC.out _ T4.out.c
  go_wp2_with (first
    | (go_at_call 94; refine (HN8.out b HBR.out w4).mono ?_; rintro r5 w5 ⟨g5, rfl, hA5, hg5, hb5⟩; have T5 := hid (T4.out.new hb5); have R5 := hid (rb_at hA5); clear hA5 hg5 hb5)
    | (refine wpList_append_tx (by rfl) 29 rfl (.tmp 24) (.tmp 28) rfl T5.out rfl w5.heap.size (some ⟨g5, 0, none⟩) 8 8 (toBE 8 b) rfl (toBE_length 8 b) R5.out (by simp [toBE_length]) ?_; intro v6 w6 hh; have T6 := hid hh; clear hh))
  go_ret
  exact ⟨_, rfl, T6.out⟩
set_option maxRecDepth 100000 in
set_option maxHeartbeats 4000000 in
theorem textR_list (t : Tk13) (AI AS : Option Addr) (cI cS : Nat) (w : World) (hk : okT t) (hm : OrI w w.heap.size t.o AI AS cI cS) (kb : UInt8) (h3 : t.o.kind = (kb.toNat : Int)) (hkb : kb = 1 ∨ kb = 2) (hi : ∀ x ∈ t.o.idx, x < 18446744073709551616) (hl1 : 0 < t.o.idx.length) (hl2 : t.o.idx.length ≤ 256) (hl3 : t.o.sl.length ≤ 256) :
    Calls Tryd.prog 124 #[.agg (tkV t AI AS cI cS).toArray] w fun r w' => ∃ v, r = .returned v ∧ TxW w (tkV t AI AS cI cS) 107 v (textT t) w' := by
  obtain ⟨p, e, ⟨kd, l, s, b⟩, tg⟩ := t
  obtain ⟨C, hC⟩ : ∃ C, C = tkV ⟨p, e, ⟨kd, l, s, b⟩, tg⟩ AI AS cI cS := ⟨_, rfl⟩
  obtain ⟨n, hnn⟩ : ∃ n, n = l.length := ⟨_, rfl⟩
  obtain ⟨m, hmm⟩ : ∃ n, n = s.length := ⟨_, rfl⟩
  have HPC := hid (fun (V : World) (x : At V w.heap.size C.toArray 107) => show (V.cell? ⟨w.heap.size, 0, none⟩ = some (.int .u64 (p : Int)) ∧ V.cell? ⟨w.heap.size, 1, none⟩ = some (.int .u64 (e : Int))) ∧ V.cell? ⟨w.heap.size, 2, none⟩ = some (.int .i64 kd) ∧ V.cell? ⟨w.heap.size, 3, none⟩ = some (.slice AI n cI) ∧ V.cell? ⟨w.heap.size, 4, none⟩ = some (.slice AS m cS) ∧ V.cell? ⟨w.heap.size, 5, none⟩ = some (.int .u64 (b : Int)) from by
    rw [hC] at x
    rw [hnn, hmm]
    exact tkV_cells x)
  have HPR := hid (show p < 18446744073709551616 from hk.1)
  have HER := hid (show e < 18446744073709551616 from hk.2.1)
  have HBR := hid (show b < 18446744073709551616 from hk.2.2.1.2.2)
  have HN8 := hid (fun (n : Nat) (hn : n < 18446744073709551616) (W : World) => show Calls Tryd.prog 94 #[.int .u64 (n : Int), .int .i64 8] W (fun e' w' => ∃ g, e' = .returned (.slice (some ⟨g, 0, none⟩) 8 8) ∧ At w' g (ubs (toBE 8 n)).toArray 5 ∧ W.heap.size ≤ g ∧ Below W.heap.size W w') from numberR_any n 8 W hn (by omega))
  simp only at h3 hi hl1 hl2 hl3
  subst h3
  have HKB := hid (show IntKind.u8.wrap (kb.toNat : Int) = (kb.toNat : Int) by rcases hkb with rfl | rfl <;> rfl)
  have f3 : decide ((kb.toNat : Int) = 3) = false := by rcases hkb with rfl | rfl <;> rfl
  have f3b : ((kb.toNat : Int) == 3) = false := by rcases hkb with rfl | rfl <;> rfl
  have f3c : decide (kb.toNat = 3) = false := by rcases hkb with rfl | rfl <;> rfl
  have f3d : (kb.toNat == 3) = false := by rcases hkb with rfl | rfl <;> rfl
  have f3e : decide (kb = 3) = false := by rcases hkb with rfl | rfl <;> rfl
  obtain ⟨nb, hnb⟩ : ∃ x : UInt8, x = UInt8.ofNat (n - 1) := ⟨_, rfl⟩
  obtain ⟨n1, hn1⟩ : ∃ x : Nat, x = n - 1 := ⟨_, rfl⟩
  have HNB := hid (show ((n : Int) - 1 = (n1 : Int) ∧ RowKit.wrap64 (n1 : Int) = (n1 : Int)) ∧ (n1 : Int) % 256 = (nb.toNat : Int) by
    have h1 : nb.toNat = n - 1 := by rw [hnb, UInt8.toNat_ofNat']; omega
    refine ⟨⟨by omega, ?_⟩, by omega⟩
    unfold RowKit.wrap64
    omega)
  have HTX := hid (show textT ⟨p, e, ⟨(kb.toNat : Int), l, s, b⟩, tg⟩ = toBE 8 p ++ toBE 8 e ++ [kb] ++ [nb] ++ l.flatMap (toBE 4) ++ s.flatMap putS by
    unfold textT bodyT
    rw [if_neg (show ¬ ((kb.toNat : Int) = 3) from kb_three hkb), hnb, hnn]
    simp [toBE_one])
  have HM := hid (show m = s.length ∧ m ≤ 256 from ⟨hmm, by omega⟩)
  have HN := hid (show n = l.length ∧ n ≤ 256 ∧ 0 < n from ⟨hnn, by omega, by omega⟩)
  have HS := hid (fun (V : World) (x : Below w.heap.size w V) => hm.s.later x)
  have HI := hid (fun (V : World) (x : Below w.heap.size w V) => (hm.later x).i)
  have HK := hid (show ∀ x ∈ s, okS x from hk.2.2.1.2.1)
  have HIK := hid hi
  rw [HTX.out, ← hC]
  obtain ⟨⟨ewn0, ewn1⟩, ewn2⟩ := HNB.out
  have ewk := HKB.out
  clear hC hk hm hnn hmm HTX hnb hkb hi hl1 hl2 hl3 hn1
  have HN4 := hid (fun (n : Nat) (hn : n < 18446744073709551616) (W : World) => show Calls Tryd.prog 94 #[.int .u64 (n : Int), .int .i64 4] W (fun e' w' => ∃ g, e' = .returned (.slice (some ⟨g, 0, none⟩) 4 4) ∧ At w' g (ubs (toBE 4 n)).toArray 5 ∧ W.heap.size ≤ g ∧ Below W.heap.size W w') from numberR_any n 4 W hn (by omega))
  have HPU := hid (fun (x : Sl13) (hx : okS x) (W : World) => show Calls Tryd.prog 95 #[.agg (slV x).toArray] W (fun r w' => ∃ A c, r = .returned (.slice A 56 c) ∧ Own1 W 56 (putS x) (.slice A 56 c) w') from putR_any x.2.1 x.2.2 x.1 W hx.2.1 hx.2.2 hx.1)
  have K0 := hid (At.new w C.toArray 107)
  go_enter Tryd.func124, Tryd.ntmps124
  go_upto_region 1 with fail
  have B0 := hid (show Below w.heap.size w (w.alloc (.cells C.toArray 107)).drew from ((Below.refl _ _).alloc (Nat.le_refl _) _).drew)
  have C0 := hid (show At (w.alloc (.cells C.toArray 107)).drew w.heap.size C.toArray 107 from At.new _ _ _)
  have Z0 := hid (show w.heap.size + 1 ≤ (w.alloc (.cells C.toArray 107)).drew.heap.size from Nat.le_of_eq (World.size_alloc _ _).symm)
  refine wp_region_upto (fun W => At W w.heap.size C.toArray 107) 8 8 (by kernel_rfl) (by kernel_rfl) ?_
  try simp only [Act.put, List.setIfInBounds_toArray, List.set_cons_succ, List.set_cons_zero]
  generalize (w.alloc (.cells C.toArray 107)).drew = w0 at B0 C0 Z0 ⊢
  refine wpUpto_takeL (i := 0) (v := .pointer (some ⟨w.heap.size, 0, none⟩)) rfl rfl (by decide +kernel) (by decide +kernel) (by decide +kernel) (by decide +kernel) (by decide) (fun _ _ _ h => h) (Or.inl ⟨by rfl, ?_⟩) C0.out ?_
  · (intro W hSW; go_simp)
  simp only [List.set_cons_succ, List.set_cons_zero]
  refine wpUpto_takeL (i := 3) (v := .pointer (some ⟨w.heap.size, 1, none⟩)) rfl rfl (by decide +kernel) (by decide +kernel) (by decide +kernel) (by decide +kernel) (by decide) (fun _ _ _ h => h) (Or.inl ⟨by rfl, ?_⟩) C0.out ?_
  · (intro W hSW; go_simp)
  simp only [List.set_cons_succ, List.set_cons_zero]
  refine wpUpto_takeL (i := 1) (v := .int .u64 (p : Int)) rfl rfl (by decide +kernel) (by decide +kernel) (by decide +kernel) (by decide +kernel) (by decide) (fun _ _ _ h => h) (Or.inl ⟨by rfl, ?_⟩) C0.out ?_
  · (intro W hSW; have q := (HPC.out W hSW).1.1; go_simp)
  simp only [List.set_cons_succ, List.set_cons_zero]
  refine wpUpto_takeL (i := 4) (v := .int .u64 (e : Int)) rfl rfl (by decide +kernel) (by decide +kernel) (by decide +kernel) (by decide +kernel) (by decide) (fun _ _ _ h => h) (Or.inl ⟨by rfl, ?_⟩) C0.out ?_
  · (intro W hSW; have q := (HPC.out W hSW).1.2; go_simp)
  simp only [List.set_cons_succ, List.set_cons_zero]
  refine wpUpto_one (i := 2) rfl (by decide +kernel) rfl ?_
  intro Q0 hQ0
  go_simp
  go_at_call 94
  refine (HN8.out p HPR.out w0).mono ?_
  rintro r1 w1 ⟨g1, rfl, hA1, hg1, hb1⟩
  have T1 := hid (TxW.first (T := 107) (B0.out.trans (hb1.mono B0.out.size)) (C0.out.new_ hb1) hA1 (Nat.le_trans Z0.out hg1) (by rw [toBE_length]; omega))
  rw [toBE_length] at T1
  refine hQ0.out _ _ (fun _ => T1.out.c) ?_
  clear hQ0 Q0 hA1 hg1 hb1 B0 C0 Z0
  try simp only [Act.put, List.setIfInBounds_toArray, List.set_cons_succ, List.set_cons_zero]
  refine wpUpto_one (i := 5) rfl (by decide +kernel) rfl ?_
  intro Q0 hQ0
  go_simp
  go_at_call 94
  refine (HN8.out e HER.out w1).mono ?_
  rintro r2 w2 ⟨g2, rfl, hA2, hg2, hb2⟩
  have T2 := hid (T1.out.new hb2)
  have R2 := hid (rb_at hA2)
  refine hQ0.out _ _ (fun _ => T2.out.c) ?_
  clear hQ0 Q0 hA2 hg2 hb2 T1
  try simp only [Act.put, List.setIfInBounds_toArray, List.set_cons_succ, List.set_cons_zero]
  refine wpUpto_one (i := 6) rfl (by decide +kernel) rfl ?_
  intro Q0 hQ0
  refine wp_append_tx 12 rfl (.tmp 8) (.tmp 11) rfl T2.out rfl w2.heap.size (some ⟨g2, 0, none⟩) 8 8 (toBE 8 e) rfl (toBE_length 8 e) R2.out (by rw [toBE_length]; omega) ?_
  intro v3 w3 h3
  have T3 := hid h3
  refine hQ0.out _ _ (fun _ => T3.out.c) ?_
  clear hQ0 Q0 T2 R2 h3
  try simp only [Act.put, List.setIfInBounds_toArray, List.set_cons_succ, List.set_cons_zero]
  refine wpUpto_takeL (i := 7) (v := v3) rfl rfl (by decide +kernel) (by decide +kernel) (by decide +kernel) (by decide +kernel) (by decide) (fun _ _ _ h => h) (Or.inl ⟨by rfl, ?_⟩) T3.out.c ?_
  · (intro W hSW; go_simp)
  simp only [List.set_cons_succ, List.set_cons_zero]
  refine wpUpto_done (by decide +kernel) ?_ _
  go_simp
  obtain ⟨⟨c0, c1⟩, c2, c3, c4, c5⟩ := HPC.out _ T3.out.c
  have TK := hid (show TxW w C 107 v3 (toBE 8 p ++ toBE 8 e) (w3.alloc (.cells #[.int .u8 ((kb : UInt8).toNat : Int)] 5)) from T3.out.new ((Below.refl _ _).alloc (Nat.le_refl _) _))
  have RK := hid (rb_one w3 kb)
  go_upto_region 3 with (first
    | (refine wpList_append_tx (by rfl) 19 rfl (.tmp 13) (.tmp 18) rfl TK.out rfl (w3.heap.size + 1) (some ⟨w3.heap.size, 0, none⟩) 1 1 [kb] rfl rfl RK.out (by simp [toBE_length]) ?_; intro v4 w4 h4; have T4 := hid h4; clear h4))
  clear TK RK
  clear c0 c1 c2 c3 c4 c5
  obtain ⟨⟨c0, c1⟩, c2, c3, c4, c5⟩ := HPC.out _ T4.out.c
  have TN := hid (show TxW w C 107 v4 (toBE 8 p ++ toBE 8 e ++ [kb]) (w4.alloc (.cells #[.int .u8 (nb.toNat : Int)] 5)) from T4.out.new ((Below.refl _ _).alloc (Nat.le_refl _) _))
  have RN := hid (rb_one w4 nb)
  go_upto_region 6 with (first
    | (refine wpList_append_tx (by rfl) 38 rfl (.tmp 30) (.tmp 37) rfl TN.out rfl (w4.heap.size + 1) (some ⟨w4.heap.size, 0, none⟩) 1 1 [nb] rfl rfl RN.out (by simp [toBE_length]) ?_; intro v5 w5 h5; have T5 := hid h5; clear h5))
  clear TN RN T4 T3 ewn0 ewn1 ewn2 ewk HNB HKB f3 f3b f3c f3d f3e
  clear c0 c1 c2 c3 c4 c5
  have HPL := hid (show (toBE 8 p ++ toBE 8 e ++ [kb] ++ [nb]).length = 18 by simp [toBE_length])
  generalize hpre : toBE 8 p ++ toBE 8 e ++ [kb] ++ [nb] = pre at HPL T5
  have HPE := hid hpre
  clear hpre
  go_upto_region 7 with fail
  go_loopw [3, 4] (fun u x wr => ∃ (j : Nat) (v : Value), j ≤ n ∧ x = .int .i64 (j : Int) ∧ u = v ∧ Hid (TxW w C 107 v (pre ++ (l.take j).flatMap (toBE 4)) wr)) (fun _ x _ => n - (intOf x).toNat)
  case atStart => exact ⟨0, v5, by omega, rfl, rfl, hid (by rw [List.take_zero, List.flatMap_nil, List.append_nil]; exact T5.out)⟩
  case round =>
    clear T5
    obtain ⟨j, v, hj, rfl, rfl, HW⟩ := hrel
    obtain ⟨⟨c0, c1⟩, c2, c3, c4, c5⟩ := HPC.out _ HW.out.c
    by_cases hlt : j < n
    · have hd : decide ((j : Int) < (n : Int)) = true := by simp; omega
      have hdn : decide (j < n) = true := by simp; omega
      have ik : (j : Int) < (n : Int) := by omega
      have hjl : j < l.length := by rw [← HN.out.1]; exact hlt
      obtain ⟨g, q, rfl, -, q1⟩ := (HI.out wr HW.out.bl).at hjl
      have HTK := hid (List.take_succ_eq_append_getElem hjl)
      obtain ⟨x, hx⟩ : ∃ x, x = l[j] := ⟨_, rfl⟩
      rw [← hx] at q1 HTK
      have HXK := hid (HIK.out x (by rw [hx]; exact List.getElem_mem hjl))
      have HLE := hid (show (pre ++ (l.take j).flatMap (toBE 4)).length + 4 ≤ 1000000 by rw [List.length_append, HPL.out, len_num, List.length_take]; have := HN.out; omega)
      obtain ⟨j1, hj1⟩ : ∃ q, q = j + 1 := ⟨_, rfl⟩
      rw [← hj1] at HTK
      have e2 : (j : Int) + 1 = (j1 : Int) := by omega
      have ew : IntKind.i64.wrap (j1 : Int) = (j1 : Int) := by rw [IntKind.wrap_i64] <;> have := HN.out <;> omega
      have HMS := hid (show j1 ≤ n ∧ n - j1 < n - j by omega)
      clear hlt hj hjl hx hj1
      generalize l.take j = tk at HTK HW HLE
      go_wp2_with (first
        | (go_at_call 94; refine (HN4.out x HXK.out wr).mono ?_; rintro r5 w5 ⟨g5, rfl, hA5, hg5, hb5⟩; have T5 := hid (HW.out.new hb5); have R5 := hid (rb_at hA5); clear hA5 hg5 hb5 q1 c0 c1 c2 c3 c4 c5)
        | (refine wpList_append_tx (by rfl) 55 rfl (.tmp 47) (.tmp 54) rfl T5.out rfl w5.heap.size (some ⟨g5, 0, none⟩) 4 4 (toBE 4 x) rfl (toBE_length 4 x) R5.out HLE.out ?_; intro v6 w6 hh; have T6 := hid hh; clear hh))
      exact ⟨⟨j1, _, HMS.out.1, rfl, rfl, by rw [HTK.out, List.flatMap_append, List.flatMap_cons, List.flatMap_nil, List.append_nil, ← List.append_assoc]; exact T6⟩, by
        show n - ((j1 : Int)).toNat < n - ((j : Int)).toNat
        rw [Int.toNat_natCast, Int.toNat_natCast]
        exact HMS.out.2⟩
    · obtain rfl : j = n := by omega
      have hd : decide ((j : Int) < (j : Int)) = false := by simp
      have HTA := hid (show l.take j = l by rw [HN.out.1]; exact List.take_length)
      rw [HTA.out] at HW
      clear hlt hj HTA HI
      have HPM := hid (show (pre ++ l.flatMap (toBE 4)).length ≤ 2000 by rw [List.length_append, HPL.out, len_num]; have := HN.out; omega)
      go_upto_region 11 with fail
      clear c0 c1 c2 c3 c4 c5 hd
      generalize hpre2 : pre ++ l.flatMap (toBE 4) = pre2 at HPM HW
      have HPE2 := hid hpre2
      clear hpre2
      go_loopw [3, 5] (fun u x wr => ∃ (i : Nat) (v : Value), i ≤ m ∧ x = .int .i64 (i : Int) ∧ u = v ∧ Hid (TxW w C 107 v (pre2 ++ (s.take i).flatMap putS) wr)) (fun _ x _ => m - (intOf x).toNat)
      case atStart => exact ⟨0, _, by omega, rfl, rfl, hid (by rw [List.take_zero, List.flatMap_nil, List.append_nil]; exact HW.out)⟩
      case round =>
        clear HW
        obtain ⟨i, v2, hi, rfl, rfl, HW⟩ := hrel
        obtain ⟨⟨c0, c1⟩, c2, c3, c4, c5⟩ := HPC.out _ HW.out.c
        by_cases hlt : i < m
        · have hd : decide ((i : Int) < (m : Int)) = true := by simp; omega
          have hdn : decide (i < m) = true := by simp; omega
          have ik : (i : Int) < (m : Int) := by omega
          have hjl : i < s.length := by rw [← HM.out.1]; exact hlt
          obtain ⟨g, q, rfl, -, q1⟩ := (HS.out wr HW.out.bl).at HK.out hjl
          have HTK := hid (List.take_succ_eq_append_getElem hjl)
          obtain ⟨x, hx⟩ : ∃ x, x = s[i] := ⟨_, rfl⟩
          rw [← hx] at q1 HTK
          have HXK := hid (show okS x from by rw [hx]; exact HK.out _ (List.getElem_mem hjl))
          have HTL := hid (show ∀ y ∈ s.take i, okS y from fun y hy => HK.out y (List.mem_of_mem_take hy))
          have HLE := hid (show (pre2 ++ (s.take i).flatMap putS).length + 56 ≤ 1000000 by rw [List.length_append, len_put HTL.out, List.length_take]; have := HM.out; have := HPM.out; omega)
          obtain ⟨P1, hP1⟩ : ∃ x, x = q + i * 49 := ⟨_, rfl⟩
          rw [show q + 49 * i = P1 by omega] at q1
          have eP1 : q + i * 49 = P1 := hP1.symm
          have Q1 := hid q1
          obtain ⟨j1, hj1⟩ : ∃ q, q = i + 1 := ⟨_, rfl⟩
          rw [← hj1] at HTK
          have e2 : (i : Int) + 1 = (j1 : Int) := by omega
          have ew : IntKind.i64.wrap (j1 : Int) = (j1 : Int) := by rw [IntKind.wrap_i64] <;> have := HM.out <;> omega
          have HMS := hid (show j1 ≤ m ∧ m - j1 < m - i by omega)
          clear hlt hi hjl hx hj1 hP1 q1 HTL
          generalize s.take i = tk at HTK HW HLE
          go_wp2_with (first
            | (refine wpList_valW (by rfl) (run_loadSvAt (.tmp 69) rfl g P1 rfl (slV x) Q1.out (slV_length HXK.out)) ?_)
            | (go_at_call 95; refine (HPU.out x HXK.out wr).mono ?_; rintro r5 w5 ⟨A5, c5', rfl, ho5⟩; have T5 := hid (HW.out.new ho5.below); have R5 := hid (Rd.of_own ho5.own); clear ho5 c0 c1 c2 c3 c4 c5)
            | (refine wpList_append_tx (by rfl) 72 rfl (.tmp 64) (.tmp 71) rfl T5.out rfl w5.heap.size A5 56 c5' (putS x) rfl (putS_length HXK.out) R5.out HLE.out ?_; intro v6 w6 hh; have T6 := hid hh; clear hh))
          exact ⟨⟨j1, _, HMS.out.1, rfl, rfl, by rw [HTK.out, List.flatMap_append, List.flatMap_cons, List.flatMap_nil, List.append_nil, ← List.append_assoc]; exact T6⟩, by
            show m - ((j1 : Int)).toNat < m - ((i : Int)).toNat
            rw [Int.toNat_natCast, Int.toNat_natCast]
            exact HMS.out.2⟩
        · obtain rfl : i = m := by omega
          have hd : decide ((i : Int) < (i : Int)) = false := by simp
          have HTA := hid (show s.take i = s by rw [HM.out.1]; exact List.take_length)
          rw [HTA.out] at HW
          clear hlt hi HTA
          go_wp2
          go_ret
          rw [← HPE2.out, ← HPE.out] at HW
          exact ⟨_, rfl, HW.out⟩
/-- Text, of a ticket that is an order's. -/
theorem textR13_any (t : Tk13) (AI AS : Option Addr) (cI cS : Nat) (w : World) (hk : okT t) (hm : OrI w w.heap.size t.o AI AS cI cS) (hr : rgtO t.o = true) :
    Calls Tryd.prog 124 #[.agg (tkV t AI AS cI cS).toArray] w fun r w' => ∃ v, r = .returned v ∧ TxW w (tkV t AI AS cI cS) 107 v (textT t) w' := by
  rcases rgtO_cases hr with ⟨h, -⟩ | ⟨h0, -, h1, h2⟩ | ⟨h0, -, h1, -, h2⟩
  · exact textR_three t AI AS cI cS w hk hm h
  · obtain ⟨b1, b2, b3⟩ := rgtB_small h1
    exact textR_list t AI AS cI cS w hk hm 2 (by rw [h0]; rfl) (.inr rfl) hk.2.2.1.1 b2 b3 (by rw [h2]; exact Nat.zero_le _)
  · obtain ⟨b1, b2, b3⟩ := rgtB_small h1
    exact textR_list t AI AS cI cS w hk hm 1 (by rw [h0]; rfl) (.inl rfl) hk.2.2.1.1 b2 b3 (by rw [h2]; exact b3)
end Go.Proofs.YtfmbpdjcoopaeaaDoor

namespace Go.Proofs.YtfmbpdjcoopaeaaDoor
open Go.RowKit

theorem textT_le {t : Tk13} (hk : okT t) (hr : rgtO t.o = true) : (textT t).length ≤ 20000 := by
  obtain ⟨p, e, ⟨kd, l, s, b⟩, tg⟩ := t
  unfold textT bodyT
  simp only [List.length_append, toBE_length]
  rcases rgtO_cases hr with ⟨h, -⟩ | ⟨h0, -, h1, h2⟩ | ⟨h0, -, h1, -, h2⟩
  · simp only at h
    rw [if_pos h, toBE_length]
    omega
  · simp only at h0 h1 h2
    obtain ⟨-, -, b3⟩ := rgtB_small h1
    rw [if_neg (by rw [h0]; decide), List.length_append, List.length_append, toBE_length, len_num, len_put hk.2.2.1.2.1, h2]
    simp only [List.length_nil]
    omega
  · simp only at h0 h1 h2
    obtain ⟨-, -, b3⟩ := rgtB_small h1
    rw [if_neg (by rw [h0]; decide), List.length_append, List.length_append, toBE_length, len_num, len_put hk.2.2.1.2.1]
    simp only
    omega
def tgT (key : List UInt8) (t : Tk13) : List UInt8 := (macL key (textT t)).take 16
theorem tgT_length (key : List UInt8) (t : Tk13) : (tgT key t).length = 16 := by rw [tgT, List.length_take, macL_length]; rfl
/-- What Tag has in memory. -/
structure TgK (w : World) (k : List UInt8) (C : List Value) (V : World) : Prop where
  k : At V w.heap.size (ubs k).toArray 25
  c : At V (w.heap.size + 1) C.toArray 107
  r : At V (w.heap.size + 2) (ubs n16).toArray 30
  z : w.heap.size + 3 ≤ V.heap.size
  bl : Below w.heap.size w V
theorem TgK.new {w V V' : World} {k : List UInt8} {C : List Value} (x : TgK w k C V) (hb : Below V.heap.size V V') : TgK w k C V' := ⟨x.k.new_ hb, x.c.new_ hb, x.r.new_ hb, Nat.le_trans x.z hb.size, x.bl.trans (hb.mono x.bl.size)⟩
theorem TgK.start {w : World} {k : List UInt8} {C : List Value} : TgK w k C (((w.alloc (.cells (ubs k).toArray 25)).alloc (.cells C.toArray 107)).alloc (.cells (ubs n16).toArray 30)) :=
  ⟨((At.new _ _ _).alloc _).alloc _, (At.new_at (by simp)).alloc _, At.new_at (by simp), by simp, (((Below.refl _ _).alloc (Nat.le_refl _) _).alloc (by simp) _).alloc (by simp; omega) _⟩
/-- What Tag's region yields. -/
def tgF (w : World) (C : List Value) (tx mc : List UInt8) (i : Nat) (v : Value) (W : World) : Prop :=
  match i with
  | 0 => v = .slice (some ⟨w.heap.size, 0, none⟩) 32 32
  | 1 => v = .agg C.toArray
  | 2 => ∃ A c, v = .slice A tx.length c ∧ Rb W W.heap.size A tx
  | 3 => v = .agg (ubs mc).toArray
  | _ => ∃ Q, v = .pointer (some ⟨Q, 0, none⟩) ∧ At W Q (ubs n32).toArray 25 ∧ w.heap.size + 3 ≤ Q
theorem tgF_new {w : World} {C : List Value} {tx mc : List UInt8} {i : Nat} {v : Value} {W W' : World} (h : tgF w C tx mc i v W) (hb : Below W.heap.size W W') : tgF w C tx mc i v W' := by
  rcases i with _ | _ | _ | _ | i
  · exact h
  · exact h
  · obtain ⟨A, c, h1, h2⟩ := h
    exact ⟨A, c, h1, (Rd.below h2 hb).mono hb.size⟩
  · exact h
  · obtain ⟨Q, h1, h2, h3⟩ := h
    exact ⟨Q, h1, h2.new_ hb, h3⟩
theorem zeroHash13 : (Tryd.prog.info? 25).bind (·.zero) = some (.agg (ubs n32).toArray) := by kernel_rfl
theorem zeroTag13 : (Tryd.prog.info? 30).bind (·.zero) = some (.agg (ubs n16).toArray) := by kernel_rfl
set_option maxRecDepth 100000 in
set_option maxHeartbeats 2000000 in
/-- Tag, of a ticket that is an order's. -/
theorem tagR13_any (key : List UInt8) (t : Tk13) (AI AS : Option Addr) (cI cS : Nat) (w : World) (hkl : key.length = 32) (hk : okT t) (hm : OrI w w.heap.size t.o AI AS cI cS) (hr : rgtO t.o = true) (hT : Tabr w) (hI : Tab w 0 IV.l) :
    Calls Tryd.prog 63 #[.agg (ubs key).toArray, .agg (tkV t AI AS cI cS).toArray] w fun r w' => r = .returned (.agg (ubs (tgT key t)).toArray) ∧ Below w.heap.size w w' := by
  have HTX := hid (fun (V : World) (x : Below w.heap.size w V) => textR13_any t AI AS cI cS V hk (hm.later x) hr)
  have HLE := hid (textT_le hk hr)
  have HM := hid (fun (W : World) (A : Option Addr) (c : Nat) (h : Below w.heap.size w W) (hK : Rb W W.heap.size (some ⟨w.heap.size, 0, none⟩) key) (hA : Rb W W.heap.size A (textT t)) => show Calls Tryd.prog 14 #[.slice (some ⟨w.heap.size, 0, none⟩) 32 32, .slice A (textT t).length c] W (fun e' w' => e' = .returned (.agg (ubs (macL key (textT t))).toArray) ∧ Below W.heap.size W w') by
    have := macR_any key (textT t) (some ⟨w.heap.size, 0, none⟩) A 32 c W hK hA (by omega) (by have := HLE.out; omega) (hT.below h) (Tab.below (x := IV.a) (xs := [IV.b, IV.c, IV.d, IV.e, IV.f, IV.g, IV.h]) hI h)
    rw [hkl] at this
    exact this)
  have HGD := hid (show tgT key t = (macL key (textT t)).take 16 from rfl)
  have HML := hid (macL_length key (textT t))
  have HGL := hid (tgT_length key t)
  have HCL := hid (tkV_length (show t.tag.length = 16 from hk.2.2.2) AI AS cI cS)
  have HKL := hid hkl
  clear hk hm hr hT hI hkl
  generalize tkV t AI AS cI cS = C at HTX HCL ⊢
  obtain ⟨tag, htag⟩ : ∃ x, x = tgT key t := ⟨_, rfl⟩
  rw [← htag] at HGD HGL ⊢
  generalize textT t = tx at HTX HLE HM HGD HML
  generalize macL key tx = mc at HM HGD HML
  clear htag
  have K0 := hid (TgK.start (w := w) (k := key) (C := C))
  have HAT := hid (fun (o : Oper) (a : Go.Act) (W : World) (h : o.op = .alloc 30) => run_alloc_of (o := o) (a := a) (W := W) _ h _ zeroTag13)
  go_enter Tryd.func63, Tryd.ntmps63
  go_upto_region 1 with (first
    | (refine Great.wpList_allocTo rfl _ rfl _ _ (HAT.out _ _ _ rfl) ?_; simp only [World.size_alloc]))
  have K1 := hid (K0.out.new ((Below.refl _ _).drew))
  clear K0
  refine wp_region_facts 5 6 [7, 8, 9, 10, 5] (tgF w C tx mc) (TgK w key C) (by kernel_rfl) (by kernel_rfl)
    (fun W W' h hb => h.new hb) (fun _ _ _ _ h hb => tgF_new h hb) (K1.out) ?_ ?_
  · intro i hi vals W K hB hn hK
    simp only [frm_cons, frm_nil, List.set_cons_succ, List.set_cons_zero, Nat.reduceAdd] at hK ⊢
    rcases (by omega : i = 0 ∨ i = 1 ∨ i = 2 ∨ i = 3 ∨ i = 4) with rfl | rfl | rfl | rfl | rfl
    · refine wpOp_plain rfl rfl (wp_val (w' := W) (v := .slice (some ⟨w.heap.size, 0, none⟩) 32 32) (by go_simp) ?_)
      exact hK _ _ rfl (Below.refl _ _)
    · refine wpOp_plain rfl rfl (wp_val (run_load_part _ (.tmp 3) rfl (w.heap.size + 1) 0 rfl C _ (range_all hB.c) Tryd.underlying107 rfl (by rw [sizeT13, HCL.out])) ?_)
      exact hK _ _ rfl (Below.refl _ _)
    · have h1 := hn 1 (by decide +kernel)
      simp only [tgF] at h1
      simp only [h1] at hK ⊢
      refine wpOp_plain rfl rfl ?_
      go_simp
      go_at_call 124
      refine (HTX.out W hB.bl).mono ?_
      rintro e W' ⟨v, rfl, h1⟩
      obtain ⟨A, c, rfl⟩ := h1.form
      exact hK _ _ ⟨A, c, rfl, Rd.of_own h1.o⟩ h1.bl
    · have h0 := hn 0 (by decide +kernel)
      have h2 := hn 2 (by decide +kernel)
      simp only [tgF] at h0
      obtain ⟨A2, c2, e2, R2⟩ := h2
      simp only [h0, e2] at hK ⊢
      refine wpOp_plain rfl rfl ?_
      go_simp
      go_at_call 14
      refine (HM.out W A2 c2 hB.bl (rb_at hB.k) R2).mono ?_
      rintro e W' ⟨rfl, hb⟩
      exact hK _ _ rfl hb
    · refine wpOp_plain rfl rfl (wp_val (run_alloc_of _ rfl _ zeroHash13) ?_)
      exact hK _ _ ⟨W.heap.size, rfl, At.new _ _ _, hB.z⟩ ((Below.refl _ _).alloc (Nat.le_refl _) _)
  · intro vals W hB hF
    have h0 := hF 0 (by omega)
    have h1 := hF 1 (by omega)
    have h2 := hF 2 (by omega)
    have h3 := hF 3 (by omega)
    have h4 := hF 4 (by omega)
    simp only [tgF] at h0 h1 h3
    obtain ⟨A2, c2, e2, R2⟩ := h2
    obtain ⟨Q4, e4, A4, z4⟩ := h4
    simp only [frm_cons, frm_nil, List.set_cons_succ, List.set_cons_zero, Nat.reduceAdd, h0, h1, e2, h3, e4]
    have HE := hid hB
    have R4 := hid A4
    have Z4 := hid z4
    clear hB hF A4 z4 R2
    refine wpUpto_one (i := 5) rfl (by decide +kernel) rfl ?_
    intro Q0 hQ0
    refine wp_store_row 25 (.tmp 5) (.tmp 10) rfl Q4 (ubs mc).toArray rfl rfl 25 (ubs n32).toArray R4.out (sizeH_of HML.out) ?u14 (ubs_all _) ?_
    case u14 => simp [ubs_length, n32_length, HML.out]
    have R7 := hid (At.setRow_far (ds := (ubs mc).toArray) HE.out.r (by have := Z4.out; omega : w.heap.size + 2 ≠ Q4))
    have H7 := hid (setRow_heap W Q4 (ubs n32).toArray (ubs mc).toArray 25 (0, 0) R4.out)
    have B7 := hid (below_setRow HE.out.bl (by have := Z4.out; omega : w.heap.size ≤ Q4) (ubs mc).toArray)
    have Z7 := hid (show w.heap.size + 3 ≤ (W.setRow Q4 (ubs mc).toArray).heap.size by have := HE.out.z; simpa using this)
    generalize (W.setRow Q4 (ubs mc).toArray) = w8 at R7 H7 B7 Z7 ⊢
    refine hQ0.out _ _ (fun _ => trivial) ?_
    clear hQ0 Q0 HE R4
    refine wpUpto_done (by decide +kernel) ?_ _
    go_simp
    go_upto_region 3 with (first
      | (refine Great.wpList_allocTo rfl _ rfl _ _ (HAT.out _ _ _ rfl) ?_))
    have R8 := hid (show At (w8.alloc (.cells (ubs n16).toArray 30)).drew (w.heap.size + 2) (ubs n16).toArray 30 from R7.out.alloc _)
    have H8 := hid (show At (w8.alloc (.cells (ubs n16).toArray 30)).drew Q4 (ubs mc).toArray 25 from At.alloc (show At w8 Q4 (ubs mc).toArray 25 from H7.out) _)
    have E8 := hid (show At (w8.alloc (.cells (ubs n16).toArray 30)).drew w8.heap.size (ubs n16).toArray 30 from At.new w8 _ _)
    have B8 := hid (show Below w.heap.size w (w8.alloc (.cells (ubs n16).toArray 30)).drew from (B7.out.alloc B7.out.size _).drew)
    clear R7 H7 B7
    refine wp_region_upto (fun _ => True) 3 3 (by kernel_rfl) (by kernel_rfl) ?_
    try simp only [Act.put, List.setIfInBounds_toArray, List.set_cons_succ, List.set_cons_zero]
    generalize (w8.alloc (.cells (ubs n16).toArray 30)).drew = V9 at R8 H8 E8 B8 ⊢
    generalize w8.heap.size = EE at E8 Z7 ⊢
    refine wpUpto_takeL (i := 0) (v := .slice (some ⟨EE, 0, none⟩) 16 16) rfl rfl (by decide +kernel) (by decide +kernel) (by decide +kernel) (by decide +kernel) (by decide) (fun _ _ _ h => h) (Or.inl ⟨by rfl, ?_⟩) trivial ?_
    · (intro W hSW; go_simp)
    simp only [List.set_cons_succ, List.set_cons_zero]
    refine wpUpto_takeL (i := 1) (v := .slice (some ⟨Q4, 0, none⟩) 32 32) rfl rfl (by decide +kernel) (by decide +kernel) (by decide +kernel) (by decide +kernel) (by decide) (fun _ _ _ h => h) (Or.inl ⟨by rfl, ?_⟩) trivial ?_
    · (intro W hSW; go_simp)
    simp only [List.set_cons_succ, List.set_cons_zero]
    refine wpUpto_one (i := 2) rfl (by decide +kernel) rfl ?_
    intro Q0 hQ0
    refine wp_copy_rd (.tmp 11) (.tmp 12) _ _ rfl 5 Tryd.underlying22 sizeU8 EE 0 16 16 V9.heap.size (some ⟨Q4, 0, none⟩) 32 32 rfl rfl (ubs n16) 30 E8.out (ubs mc) (rb_at H8.out) (by rw [ubs_length]; exact HML.out) (by rw [ubs_length, n16_length]; omega) (ubs_one _) ?_
    intro wa hAa hFa
    have Ea := hid (show At wa EE (ubs tag).toArray 30 by rw [splice_first mc HML.out, ← HGD.out] at hAa; exact hAa)
    have Ra := hid (R8.out.fr hFa (by have := Z7.out; omega))
    have Ba := hid (((Fr.of_below (S := fun k => w.heap.size ≤ k) B8.out (fun _ _ h => h)).next hFa (fun k hk e => by have := Z7.out; omega)).below (B := w.heap.size) (fun _ h => h) (Nat.le_refl _))
    clear hAa hFa
    refine hQ0.out _ _ (fun _ => trivial) ?_
    clear hQ0 Q0 R8 H8 E8 B8
    refine wpUpto_done (by decide +kernel) ?_ _
    go_simp
    go_wp2_with (first
      | (refine wpList_load_row rfl _ (.tmp 6) rfl EE rfl 30 (ubs tag).toArray (0, 0) _ Ea.out Tryd.underlying30 rfl (size16_of HGL.out) ?_)
      | (refine wpList_store_row rfl _ (.tmp 4) (.tmp 14) rfl (w.heap.size + 2) (ubs tag).toArray rfl rfl 30 (ubs n16).toArray Ra.out (size16_of HGL.out) ?u24 (ubs_all _) ?u34; rotate_right))
    case u24 => simp [ubs_length, n16_length, HGL.out]
    refine bodyPost_ret (results_cell_row rfl _ _ (w.heap.size + 2) 30 (ubs tag).toArray (0, 0) _ rfl (setRow_heap _ _ _ _ _ _ Ra.out) Tryd.underlying30 rfl (size16_of HGL.out)) rfl ?_
    exact ⟨rfl, below_setRow Ba.out (by omega) _⟩
end Go.Proofs.YtfmbpdjcoopaeaaDoor
