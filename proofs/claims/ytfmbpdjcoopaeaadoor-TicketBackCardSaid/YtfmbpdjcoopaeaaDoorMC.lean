/-
  Layer 13, the program's side: a writer beside one block that is kept; an order's bytes.
  Layer 13, the program's side: the bytes ahead of the tag.
  Layer 13, the program's side: Put, Check.
-/
import Derived.Test.YtfmbpdjcoopaeaaDoorM9
import Derived.Test.YtfmbpdjcoopaeaaDoorPa
import Derived.Test.YtfmbpdjcoopaeaaDoorMB
import Derived.Test.YtfmbpdjcoopaeaaDoorP6
import Derived.Test.YtfmbpdjcoopaeaaDoorV4
namespace Go.Proofs.YtfmbpdjcoopaeaaDoor
open Go.RowKit

/-- A writer that lies where the world w ends, and the bytes that it has; beside it a block g that stands as it did. -/
structure WK (w : World) (bs : List UInt8) (g : Nat) (C : Array Value) (T : TypeId) (V : World) : Prop where
  wi : ∃ v, WI V w.heap.size w.heap.size 0 v bs ∧ v.ownBlock ≠ some g
  bl : Below w.heap.size w V
  far : w.heap.size < g
  c : At V g C T
section
variable {w V V' : World} {bs xs : List UInt8} {g : Nat} {C : Array Value} {T : TypeId}
theorem WK.wn (k : WK w bs g C T V) : WN w bs V := by
  obtain ⟨⟨v, h, -⟩, h2, -, -⟩ := k
  exact ⟨⟨v, h⟩, h2⟩
theorem wi_lt {v : Value} (h : WI V w.heap.size w.heap.size 0 v bs) (k : Nat) (hk : v.ownBlock = some k) : k < V.heap.size := by
  obtain ⟨A, c, rfl, -, -, -, ho, ha⟩ := own_form h.own
  rcases A with _ | a
  · rw [ho] at hk; cases hk
  · rw [ho] at hk
    obtain rfl : a.block = k := by simpa using hk
    exact (ha a rfl).2.2.2
theorem WK.begin (h : WN w bs V) : WK w bs V.heap.size C T (V.alloc (.cells C T)) := by
  obtain ⟨⟨v, h1⟩, h2⟩ := h
  have hb : Below V.heap.size V (V.alloc (.cells C T)) := (Below.refl _ _).alloc (Nat.le_refl _) _
  exact ⟨⟨v, h1.keep (Fr.of_new (S := fun _ => False) hb) (fun _ _ => id), fun e => Nat.lt_irrefl _ (wi_lt h1 _ e)⟩, h2.trans (hb.mono h2.size), h1.at_.lt, At.new _ _ _⟩
theorem WK.new (k : WK w bs g C T V) (hb : Below V.heap.size V V') : WK w bs g C T V' := by
  obtain ⟨⟨v, h1, h3⟩, h2, h4, h5⟩ := k
  exact ⟨⟨v, h1.keep (Fr.of_new (S := fun _ => False) hb) (fun _ _ => id), h3⟩, h2.trans (hb.mono h2.size), h4, h5.new_ hb⟩
theorem WK.drew (k : WK w bs g C T V) : WK w bs g C T V.drew := k.new (Below.refl _ _).drew
theorem WK.step {v x : Value} (h : WI V w.heap.size w.heap.size 0 v bs) (hv : v.ownBlock ≠ some g) (k : WK w bs g C T V) (ho : WOut w.heap.size w.heap.size 0 xs v V x V') : x = .pointer (some ⟨w.heap.size, 0, none⟩) ∧ WK w xs g C T V' := by
  obtain ⟨e, h2⟩ := WN.out h k.bl ho
  obtain ⟨-, v', h3, h4, h5⟩ := ho
  refine ⟨e, ⟨⟨v', h3, ?_⟩, h2.2, k.far, k.c.fr h4 ?_⟩⟩
  · rcases h5 with h5 | h5
    · rw [h5]; exact hv
    · intro e2
      have h6 := h5 g e2
      have h7 := k.c.lt
      omega
  · rintro (h6 | h6)
    · have h7 := k.far
      omega
    · exact hv h6
theorem wk_num (k : WK w bs g C T V) (n s : Nat) (hs : Sz s) (hn : n < 256 ^ s) (hl : bs.length ≤ 900000000) :
    Calls Tryd.prog 87 #[.pointer (some ⟨w.heap.size, 0, none⟩), .int .u64 (n : Int), .int .i64 (s : Int)] V fun e w' => e = .returned (.pointer (some ⟨w.heap.size, 0, none⟩)) ∧ WK w (bs ++ toBE s n) g C T w' := by
  obtain ⟨v, h1, h3⟩ := k.wi
  refine (num_fit w.heap.size w.heap.size 0 v bs n s hs hn V h1 k.bl.size hl).mono ?_
  rintro e w' ⟨x, rfl, ho⟩
  obtain ⟨rfl, h4⟩ := k.step h1 h3 ho
  rw [wput, if_pos rfl, be_toBE] at h4
  exact ⟨rfl, h4⟩
theorem wk_raw {A : Option Addr} (c : Nat) (k : WK w bs g C T V) (hx : Rb V V.heap.size A xs) (hl : bs.length + xs.length ≤ 1000000000) :
    Calls Tryd.prog 88 #[.pointer (some ⟨w.heap.size, 0, none⟩), .slice A xs.length c] V fun e w' => e = .returned (.pointer (some ⟨w.heap.size, 0, none⟩)) ∧ WK w (bs ++ xs) g C T w' := by
  obtain ⟨v, h1, h3⟩ := k.wi
  refine (raw_any w.heap.size w.heap.size 0 v bs xs A c V h1 hx k.bl.size hl).mono ?_
  rintro e w' ⟨x, rfl, ho⟩
  obtain ⟨rfl, h4⟩ := k.step h1 h3 ho
  rw [wput, if_pos rfl] at h4
  exact ⟨rfl, h4⟩
end
theorem be4_len (l : List Nat) : (l.flatMap (toBE 4)).length = 4 * l.length := len_num l 4
set_option maxRecDepth 100000 in
set_option maxHeartbeats 2000000 in
/-- putOrder, of an order to resize. -/
theorem pputorder_three (u : World) (bs : List UInt8) (o : Ord13) (AI AS : Option Addr) (cI cS : Nat) (W : World) (hw : WN u bs W) (h3 : o.kind = 3) (hb : o.blocks < 18446744073709551616) (hl : bs.length ≤ 1000) :
    Calls Tryd.prog 168 #[.pointer (some ⟨u.heap.size, 0, none⟩), .agg (ordV o AI AS cI cS).toArray] W fun e w' => e = .returned (.tuple #[]) ∧ WN u (bs ++ (toBE 1 o.kind.toNat ++ bodyT o)) w' := by
  obtain ⟨kd, l, s, b⟩ := o
  obtain rfl : kd = 3 := h3
  have hbo : bodyT ⟨3, l, s, b⟩ = toBE 8 b := by unfold bodyT; rw [if_pos rfl]
  rw [hbo]
  obtain ⟨O, hO⟩ : ∃ O, O = ordV ⟨3, l, s, b⟩ AI AS cI cS := ⟨_, rfl⟩
  have HC := hid (fun (V : World) (x : At V W.heap.size O.toArray 93) => show V.cell? ⟨W.heap.size, 0, none⟩ = some (.int .i64 3) ∧ V.cell? ⟨W.heap.size, 3, none⟩ = some (.int .u64 (b : Int)) from by
    rw [hO] at x
    exact ⟨(ordV_cells x).1, (ordV_cells x).2.2.2⟩)
  rw [← hO]
  have K0 := hid (show WK u bs W.heap.size O.toArray 93 (W.alloc (.cells O.toArray 93)) from WK.begin hw)
  have H1 := hid (fun (V : World) (k : WK u bs W.heap.size O.toArray 93 V) => show Calls Tryd.prog 87 #[.pointer (some ⟨u.heap.size, 0, none⟩), .int .u64 3, .int .i64 1] V (fun e w' => e = .returned (.pointer (some ⟨u.heap.size, 0, none⟩)) ∧ WK u (bs ++ toBE 1 3) W.heap.size O.toArray 93 w') from wk_num k 3 1 (by unfold Sz; omega) (by decide) (by omega))
  have H2 := hid (fun (V : World) (k : WK u (bs ++ toBE 1 3) W.heap.size O.toArray 93 V) => show Calls Tryd.prog 87 #[.pointer (some ⟨u.heap.size, 0, none⟩), .int .u64 (b : Int), .int .i64 8] V (fun e w' => e = .returned (.pointer (some ⟨u.heap.size, 0, none⟩)) ∧ WK u (bs ++ toBE 1 3 ++ toBE 8 b) W.heap.size O.toArray 93 w') from wk_num k b 8 (by unfold Sz; omega) (by omega) (by rw [List.length_append, toBE_length]; omega))
  have HE := hid (List.append_assoc bs (toBE 1 3) (toBE 8 b))
  obtain ⟨c0, c3⟩ := HC.out _ K0.out.c
  clear hO hw hb hl hbo
  go_enter Tryd.func168, Tryd.ntmps168
  go_wp2_with (first
    | (go_at_call 87; (with_reducible refine (H1.out _ K0.out).mono ?_); rintro e1 w1 ⟨rfl, h1⟩; have K1 := hid h1; clear h1 c0 c3; obtain ⟨c0, c3⟩ := HC.out _ K1.out.c)
    | (go_at_call 87; (with_reducible refine (H2.out _ K1.out).mono ?_); rintro e2 w2 ⟨rfl, h2⟩; have K2 := hid h2; clear h2 c0 c3))
  refine bodyPost_ret (results_none rfl _ _ _) rfl ?_
  refine ⟨rfl, ?_⟩
  show WN u (bs ++ (toBE 1 3 ++ toBE 8 b)) _
  rw [← HE.out]
  exact K2.out.wn
set_option maxRecDepth 100000 in
set_option maxHeartbeats 4000000 in
/-- putOrder, of an order to write or to trim. -/
theorem pputorder_list (u : World) (bs : List UInt8) (k : Nat) (l : List Nat) (s : List Sl13) (b : Nat) (AI AS : Option Addr) (cI cS : Nat) (W : World) (hw : WN u bs W) (hkk : k = 1 ∨ k = 2) (hi : ∀ x ∈ l, x < 256 ^ 4) (hs : ∀ x ∈ s, okS x)
    (hm : OrI u u.heap.size ⟨(k : Int), l, s, b⟩ AI AS cI cS) (hl1 : 0 < l.length) (hl2 : l.length ≤ 256) (hl3 : s.length ≤ 256) (hl : bs.length ≤ 1000) :
    Calls Tryd.prog 168 #[.pointer (some ⟨u.heap.size, 0, none⟩), .agg (ordV ⟨(k : Int), l, s, b⟩ AI AS cI cS).toArray] W fun e w' => e = .returned (.tuple #[]) ∧ WN u (bs ++ toBE 1 k ++ toBE 1 (l.length - 1) ++ l.flatMap (toBE 4) ++ s.flatMap putS) w' := by
  obtain ⟨O, hO⟩ : ∃ O, O = ordV ⟨(k : Int), l, s, b⟩ AI AS cI cS := ⟨_, rfl⟩
  obtain ⟨n, hnn⟩ : ∃ n, n = l.length := ⟨_, rfl⟩
  obtain ⟨m, hmm⟩ : ∃ n, n = s.length := ⟨_, rfl⟩
  have HC := hid (fun (V : World) (x : At V W.heap.size O.toArray 93) => show V.cell? ⟨W.heap.size, 0, none⟩ = some (.int .i64 (k : Int)) ∧ V.cell? ⟨W.heap.size, 1, none⟩ = some (.slice AI n cI) ∧ V.cell? ⟨W.heap.size, 2, none⟩ = some (.slice AS m cS) from by
    rw [hO] at x
    rw [hnn, hmm]
    exact ⟨(ordV_cells x).1, (ordV_cells x).2.1, (ordV_cells x).2.2.1⟩)
  rw [← hO, ← hnn]
  have K0 := hid (show WK u bs W.heap.size O.toArray 93 (W.alloc (.cells O.toArray 93)) from WK.begin hw)
  obtain ⟨n1, hn1⟩ : ∃ x : Nat, x = n - 1 := ⟨_, rfl⟩
  have H1 := hid (fun (V : World) (q : WK u bs W.heap.size O.toArray 93 V) => show Calls Tryd.prog 87 #[.pointer (some ⟨u.heap.size, 0, none⟩), .int .u64 (k : Int), .int .i64 1] V (fun e w' => e = .returned (.pointer (some ⟨u.heap.size, 0, none⟩)) ∧ WK u (bs ++ toBE 1 k) W.heap.size O.toArray 93 w') from wk_num q k 1 (by unfold Sz; omega) (by rcases hkk with rfl | rfl <;> decide) (by omega))
  have H2 := hid (fun (V : World) (q : WK u (bs ++ toBE 1 k) W.heap.size O.toArray 93 V) => show Calls Tryd.prog 87 #[.pointer (some ⟨u.heap.size, 0, none⟩), .int .u64 (n1 : Int), .int .i64 1] V (fun e w' => e = .returned (.pointer (some ⟨u.heap.size, 0, none⟩)) ∧ WK u (bs ++ toBE 1 k ++ toBE 1 n1) W.heap.size O.toArray 93 w') from wk_num q n1 1 (by unfold Sz; omega) (by show n1 < 256 ^ 1; omega) (by rw [List.length_append, toBE_length]; omega))
  obtain ⟨pre, hpre⟩ : ∃ x, x = bs ++ toBE 1 k ++ toBE 1 n1 := ⟨_, rfl⟩
  have HPL := hid (show pre.length ≤ 1002 by rw [hpre, List.length_append, List.length_append, toBE_length, toBE_length]; omega)
  rw [← hn1, ← hpre]
  rw [← hpre] at H2
  have HN4 := hid (fun (x : Nat) (ys : List UInt8) (V : World) (hx : x < 256 ^ 4) (hy : ys.length ≤ 100000) (q : WK u ys W.heap.size O.toArray 93 V) => show Calls Tryd.prog 87 #[.pointer (some ⟨u.heap.size, 0, none⟩), .int .u64 (x : Int), .int .i64 4] V (fun e w' => e = .returned (.pointer (some ⟨u.heap.size, 0, none⟩)) ∧ WK u (ys ++ toBE 4 x) W.heap.size O.toArray 93 w') from wk_num q x 4 (by unfold Sz; omega) hx (by omega))
  have HRW := hid (fun (x : Sl13) (ys : List UInt8) (V : World) (A : Option Addr) (c : Nat) (hx : okS x) (hy : ys.length ≤ 100000) (q : WK u ys W.heap.size O.toArray 93 V) (hr : Rb V V.heap.size A (putS x)) => show Calls Tryd.prog 88 #[.pointer (some ⟨u.heap.size, 0, none⟩), .slice A 56 c] V (fun e w' => e = .returned (.pointer (some ⟨u.heap.size, 0, none⟩)) ∧ WK u (ys ++ putS x) W.heap.size O.toArray 93 w') from by
    have := wk_raw c q hr (by rw [putS_length hx]; omega)
    rw [putS_length hx] at this
    exact this)
  have HPU := hid (fun (x : Sl13) (hx : okS x) (V : World) => show Calls Tryd.prog 29 #[.agg (slV x).toArray] V (fun r w' => ∃ A c, r = .returned (.slice A 56 c) ∧ Rb w' w'.heap.size A (putS x) ∧ Below V.heap.size V w') from pput_rb x.2.1 x.2.2 x.1 V hx.2.1 hx.2.2 hx.1)
  have HAS := hid (fun (o : Oper) (a : Go.Act) (W : World) (h : o.op = .alloc 37) => run_alloc_of (o := o) (a := a) (W := W) _ h _ zeroPs)
  have HM := hid (show m = s.length ∧ m ≤ 256 from ⟨hmm, by omega⟩)
  have HN := hid (show n = l.length ∧ n ≤ 256 ∧ 0 < n from ⟨hnn, by omega, by omega⟩)
  have HS := hid (fun (V : World) (x : Below u.heap.size u V) => hm.s.later x)
  have HI := hid (fun (V : World) (x : Below u.heap.size u V) => (hm.later x).i)
  have HK := hid hs
  have HIK := hid hi
  have ek : IntKind.u64.wrap (k : Int) = (k : Int) := wrapN64 k (by omega)
  have en0 : (n : Int) - 1 = (n1 : Int) := by omega
  have en1 : IntKind.i64.wrap (n1 : Int) = (n1 : Int) := by rw [IntKind.wrap_i64] <;> omega
  have en2 : IntKind.u64.wrap (n1 : Int) = (n1 : Int) := wrapN64 n1 (by omega)
  have f3 : decide ((k : Int) = 3) = false := by rcases hkk with rfl | rfl <;> rfl
  have f3b : ((k : Int) == 3) = false := by rcases hkk with rfl | rfl <;> rfl
  have f3c : decide (k = 3) = false := by rcases hkk with rfl | rfl <;> rfl
  have f3d : (k == 3) = false := by rcases hkk with rfl | rfl <;> rfl
  obtain ⟨c0, c1, c2⟩ := HC.out _ K0.out.c
  clear hO hw hi hs hm hl1 hl2 hl3 hl hnn hmm hn1 hpre hkk
  go_enter Tryd.func168, Tryd.ntmps168
  go_upto_region 5 with (first
    | (go_at_call 87; (with_reducible refine (H1.out _ K0.out).mono ?_); rintro e1 w1 ⟨rfl, h1⟩; have K1 := hid h1; clear h1 c0 c1 c2; obtain ⟨c0, c1, c2⟩ := HC.out _ K1.out.c)
    | (go_at_call 87; (with_reducible refine (H2.out _ K1.out).mono ?_); rintro e2 w2 ⟨rfl, h2⟩; have K2 := hid h2; clear h2 c0 c1 c2; obtain ⟨c0, c1, c2⟩ := HC.out _ K2.out.c))
  clear K0 K1 H1 H2 ek en0 en1 en2 f3 f3b f3c f3d
  go_upto_region 6 with fail
  clear c0 c1 c2
  go_loopw [5, 30] (fun _ x wr => ∃ (j : Nat), j ≤ n ∧ x = .int .i64 (j : Int) ∧ Hid (WK u (pre ++ (l.take j).flatMap (toBE 4)) W.heap.size O.toArray 93 wr)) (fun _ x _ => n - (intOf x).toNat)
  case atStart => exact ⟨0, by omega, rfl, hid (by rw [List.take_zero, List.flatMap_nil, List.append_nil]; exact K2.out)⟩
  case round =>
    clear K2
    obtain ⟨j, hj, rfl, HW⟩ := hrel
    obtain ⟨c0, c1, c2⟩ := HC.out _ HW.out.c
    by_cases hlt : j < n
    · have hd : decide ((j : Int) < (n : Int)) = true := by simp; omega
      have hdn : decide (j < n) = true := by simp; omega
      have ik : (j : Int) < (n : Int) := by omega
      have hjl : j < l.length := by rw [← HN.out.1]; exact hlt
      obtain ⟨g, q, rfl, -, q1⟩ := (HI.out wr HW.out.bl).at hjl
      have HTK := hid (List.take_succ_eq_append_getElem hjl)
      obtain ⟨x, hx⟩ : ∃ x, x = l[j] := ⟨_, rfl⟩
      rw [← hx] at q1 HTK
      have HXK := hid (HIK.out x (by rw [hx]; exact List.getElem_mem hjl))
      have HLE := hid (show (pre ++ (l.take j).flatMap (toBE 4)).length ≤ 100000 by rw [List.length_append, be4_len, List.length_take]; have := HN.out; have := HPL.out; omega)
      obtain ⟨j1, hj1⟩ : ∃ q, q = j + 1 := ⟨_, rfl⟩
      rw [← hj1] at HTK
      have e2 : (j : Int) + 1 = (j1 : Int) := by omega
      have ew : IntKind.i64.wrap (j1 : Int) = (j1 : Int) := by rw [IntKind.wrap_i64] <;> have := HN.out <;> omega
      have HMS := hid (show j1 ≤ n ∧ n - j1 < n - j by omega)
      clear hlt hj hjl hx hj1
      generalize l.take j = tk at HTK HW HLE
      go_wp2_with (first
        | (go_at_call 87; refine (HN4.out x _ wr HXK.out HLE.out HW.out).mono ?_; rintro r5 w5 ⟨rfl, hb5⟩; have T6 := hid hb5; clear hb5 q1 c0 c1 c2))
      exact ⟨⟨j1, HMS.out.1, rfl, by rw [HTK.out, List.flatMap_append, List.flatMap_cons, List.flatMap_nil, List.append_nil, ← List.append_assoc]; exact T6⟩, by
        show n - ((j1 : Int)).toNat < n - ((j : Int)).toNat
        rw [Int.toNat_natCast, Int.toNat_natCast]
        exact HMS.out.2⟩
    · obtain rfl : j = n := by omega
      have hd : decide ((j : Int) < (j : Int)) = false := by simp
      have HTA := hid (show l.take j = l by rw [HN.out.1]; exact List.take_length)
      rw [HTA.out] at HW
      clear hlt hj HTA HI
      have HPM := hid (show (pre ++ l.flatMap (toBE 4)).length ≤ 3000 by rw [List.length_append, be4_len]; have := HN.out; have := HPL.out; omega)
      go_upto_region 11 with fail
      clear c0 c1 c2 hd
      generalize hpre2 : pre ++ l.flatMap (toBE 4) = pre2 at HPM HW
      have HPE2 := hid hpre2
      clear hpre2
      go_loopw [7, 41] (fun _ x wr => ∃ (i : Nat), i ≤ m ∧ x = .int .i64 (i : Int) ∧ Hid (WK u (pre2 ++ (s.take i).flatMap putS) W.heap.size O.toArray 93 wr)) (fun _ x _ => m - (intOf x).toNat)
      case atStart => exact ⟨0, by omega, rfl, hid (by rw [List.take_zero, List.flatMap_nil, List.append_nil]; exact HW.out)⟩
      case round =>
        clear HW
        obtain ⟨i, hi, rfl, HW⟩ := hrel
        obtain ⟨c0, c1, c2⟩ := HC.out _ HW.out.c
        by_cases hlt : i < m
        · have hd : decide ((i : Int) < (m : Int)) = true := by simp; omega
          have hdn : decide (i < m) = true := by simp; omega
          have ik : (i : Int) < (m : Int) := by omega
          have hjl : i < s.length := by rw [← HM.out.1]; exact hlt
          obtain ⟨g, q, rfl, -, q1⟩ := (HS.out wr HW.out.bl).at HK.out hjl
          have HTK := hid (List.take_succ_eq_append_getElem hjl)
          obtain ⟨x, hx⟩ : ∃ x, x = s[i] := ⟨_, rfl⟩
          rw [← hx] at q1 HTK
          have HXK := hid (show okS x from by rw [hx]; exact HK.out _ (List.getElem_mem hjl))
          have HTL := hid (show ∀ y ∈ s.take i, okS y from fun y hy => HK.out y (List.mem_of_mem_take hy))
          have HLE := hid (show (pre2 ++ (s.take i).flatMap putS).length ≤ 100000 by rw [List.length_append, len_put HTL.out, List.length_take]; have := HM.out; have := HPM.out; omega)
          obtain ⟨P1, hP1⟩ : ∃ x, x = q + i * 49 := ⟨_, rfl⟩
          rw [show q + 49 * i = P1 by omega] at q1
          have eP1 : q + i * 49 = P1 := hP1.symm
          have Q1 := hid q1
          obtain ⟨j1, hj1⟩ : ∃ q, q = i + 1 := ⟨_, rfl⟩
          rw [← hj1] at HTK
          have e2 : (i : Int) + 1 = (j1 : Int) := by omega
          have ew : IntKind.i64.wrap (j1 : Int) = (j1 : Int) := by rw [IntKind.wrap_i64] <;> have := HM.out <;> omega
          have HMS := hid (show j1 ≤ m ∧ m - j1 < m - i by omega)
          have HSL := hid (slV_length HXK.out)
          have HSB := hid (ps_stored_below wr (slV x))
          have HSA := hid (ps_stored wr (slV x))
          have HSW := hid (HW.out.new HSB.out)
          clear hlt hi hjl hx hj1 hP1 q1 HTL
          generalize s.take i = tk at HTK HW HLE HSW
          go_wp2_with (first
            | (refine wpList_valW (by rfl) (run_loadPsAt (.tmp 43) rfl g P1 rfl (slV x) Q1.out (slV_length HXK.out)) ?_)
            | (refine Great.wpList_allocTo rfl _ rfl _ _ (HAS.out _ _ _ rfl) ?_)
            | (refine wpList_store_row rfl _ (.tmp 7) (.tmp 44) rfl wr.heap.size (slV x).toArray rfl rfl 37 (sv 0 n32 n16).toArray (heap_alloc_new _ _) (sizePs_of HSL.out) ?e5 (sv_all _ _ _) ?e6; rotate_right; generalize ((wr.alloc (.cells (sv 0 n32 n16).toArray 37)).setRow wr.heap.size (slV x).toArray) = w4 at HSA HSW ⊢; clear c0 c1 c2)
            | (refine wpList_valW (by rfl) (run_loadPsAt (.tmp 7) rfl wr.heap.size 0 rfl (slV x) (range_all HSA.out) HSL.out) ?_)
            | (go_at_call 29; refine (HPU.out x HXK.out w4).mono ?_; rintro r5 w5 ⟨A5, c5, rfl, hr5, hb5⟩; have T5 := hid (HSW.out.new hb5); have R5 := hid hr5; clear hr5 hb5)
            | (go_at_call 88; refine (HRW.out x _ w5 A5 c5 HXK.out HLE.out T5.out R5.out).mono ?_; rintro r6 w6 ⟨rfl, hb6⟩; have T6 := hid hb6; clear hb6))
          case e5 => simp [sv_length 0 n32 n16 n32_length n16_length, HSL.out]
          exact ⟨⟨j1, HMS.out.1, rfl, by rw [HTK.out, List.flatMap_append, List.flatMap_cons, List.flatMap_nil, List.append_nil, ← List.append_assoc]; exact T6⟩, by
            show m - ((j1 : Int)).toNat < m - ((i : Int)).toNat
            rw [Int.toNat_natCast, Int.toNat_natCast]
            exact HMS.out.2⟩
        · obtain rfl : i = m := by omega
          have hd : decide ((i : Int) < (i : Int)) = false := by simp
          have HTA := hid (show s.take i = s by rw [HM.out.1]; exact List.take_length)
          rw [HTA.out] at HW
          clear hlt hi HTA
          go_wp2
          go_end0
          rw [← HPE2.out] at HW
          exact ⟨rfl, HW.out.wn⟩
/-- putOrder. -/
theorem pputorder_any (u : World) (bs : List UInt8) (o : Ord13) (AI AS : Option Addr) (cI cS : Nat) (W : World) (hw : WN u bs W) (hk : okO o) (hm : OrI u u.heap.size o AI AS cI cS) (hr : rgtO o = true) (hl : bs.length ≤ 1000) :
    Calls Tryd.prog 168 #[.pointer (some ⟨u.heap.size, 0, none⟩), .agg (ordV o AI AS cI cS).toArray] W fun e w' => e = .returned (.tuple #[]) ∧ WN u (bs ++ (toBE 1 o.kind.toNat ++ bodyT o)) w' := by
  have list : ∀ k : Nat, k = 1 ∨ k = 2 → o.kind = (k : Int) → rgtB 32 o.idx = true → o.sl.length ≤ 256 → Calls Tryd.prog 168 #[.pointer (some ⟨u.heap.size, 0, none⟩), .agg (ordV o AI AS cI cS).toArray] W fun e w' => e = .returned (.tuple #[]) ∧ WN u (bs ++ (toBE 1 o.kind.toNat ++ bodyT o)) w' := by
    intro k hkk hkd hb hsl
    obtain ⟨b1, b2, b3⟩ := rgtB_small hb
    obtain ⟨kd, l, s, b⟩ := o
    obtain rfl : kd = (k : Int) := hkd
    have he : bs ++ (toBE 1 ((k : Int)).toNat ++ bodyT ⟨(k : Int), l, s, b⟩) = bs ++ toBE 1 k ++ toBE 1 (l.length - 1) ++ l.flatMap (toBE 4) ++ s.flatMap putS := by
      unfold bodyT
      rw [if_neg (by simp only; rcases hkk with rfl | rfl <;> decide), Int.toNat_natCast]
      simp only [List.append_assoc]
    show Calls _ _ _ _ (fun e w' => _ ∧ WN u (bs ++ (toBE 1 ((k : Int)).toNat ++ bodyT ⟨(k : Int), l, s, b⟩)) w')
    rw [he]
    exact pputorder_list u bs k l s b AI AS cI cS W hw hkk b1 hk.2.1 hm b2 b3 hsl hl
  rcases rgtO_cases hr with ⟨h, -⟩ | ⟨h0, -, h1, h2⟩ | ⟨h0, -, h1, -, h2⟩
  · exact pputorder_three u bs o AI AS cI cS W hw h hk.2.2 hl
  · exact list 2 (.inr rfl) h0 h1 (by rw [h2]; simp)
  · exact list 1 (.inl rfl) h0 h1 (by rw [h2]; exact (rgtB_small h1).2.2)
end Go.Proofs.YtfmbpdjcoopaeaaDoor

namespace Go.Proofs.YtfmbpdjcoopaeaaDoor
open Go.RowKit

set_option maxRecDepth 100000 in
set_option maxHeartbeats 2000000 in
/-- untagged. -/
theorem puntagged_any (t : Tk13) (AI AS : Option Addr) (cI cS : Nat) (w : World) (hk : okT t) (hm : OrI w w.heap.size t.o AI AS cI cS) (hr : rgtO t.o = true) :
    Calls Tryd.prog 122 #[.agg (tkV t AI AS cI cS).toArray] w fun r w' => ∃ A c, r = .returned (.slice A (textT t).length c) ∧ Ow w' w.heap.size (.slice A (textT t).length c) (textT t) ∧ Rb w' w'.heap.size A (textT t) ∧ Below w.heap.size w w' := by
  have htl := textT_le hk hr
  obtain ⟨p, e, od, tg⟩ := t
  obtain ⟨C, hC⟩ : ∃ C, C = tkV ⟨p, e, od, tg⟩ AI AS cI cS := ⟨_, rfl⟩
  obtain ⟨O, hO⟩ : ∃ O, O = ordV od AI AS cI cS := ⟨_, rfl⟩
  have HOL := hid (show O.length = 4 by rw [hO]; rfl)
  obtain ⟨w0, hw0⟩ : ∃ w0, w0 = w.alloc (.cells C.toArray 105) := ⟨_, rfl⟩
  have hx0 : At w0 w.heap.size C.toArray 105 := by rw [hw0]; exact At.new _ _ _
  have hb0 : Below w.heap.size w w0 := by rw [hw0]; exact (Below.refl _ _).alloc (Nat.le_refl _) _
  have hz0 : w0.heap.size = w.heap.size + 1 := by rw [hw0]; simp
  have HX := hid (fun (W : World) (h : Below w0.heap.size w0 W) => hx0.new_ h)
  have HB0 := hid hb0
  have HZ0 := hid hz0
  have HPC := hid (fun (V : World) (x : At V w.heap.size C.toArray 105) => show V.cell? ⟨w.heap.size, 0, none⟩ = some (.int .u64 (p : Int)) ∧ V.cell? ⟨w.heap.size, 1, none⟩ = some (.int .u64 (e : Int)) from by
    rw [hC] at x
    exact (tkV_cells x).1)
  have HPO := hid (fun (V : World) (x : At V w.heap.size C.toArray 105) => show V.rangeAt w.heap.size 2 O from by
    rw [hC] at x
    rw [hO]
    exact tkV_ord x)
  have H8 := hid (fun (W : World) (h : WN w0 [] W) => show Calls Tryd.prog 87 #[.pointer (some ⟨w0.heap.size, 0, none⟩), .int .u64 (p : Int), .int .i64 8] W (fun e' w' => e' = .returned (.pointer (some ⟨w0.heap.size, 0, none⟩)) ∧ WN w0 (toBE 8 p) w') from by
    have := wn_num h p 8 (by unfold Sz; omega) (by have : p < 18446744073709551616 := hk.1; omega) (by simp)
    rw [List.nil_append] at this
    exact this)
  have H9 := hid (fun (W : World) (h : WN w0 (toBE 8 p) W) => show Calls Tryd.prog 87 #[.pointer (some ⟨w0.heap.size, 0, none⟩), .int .u64 (e : Int), .int .i64 8] W (fun e' w' => e' = .returned (.pointer (some ⟨w0.heap.size, 0, none⟩)) ∧ WN w0 (toBE 8 p ++ toBE 8 e) w') from
    wn_num h e 8 (by unfold Sz; omega) (by have : e < 18446744073709551616 := hk.2.1; omega) (by rw [toBE_length]; omega))
  obtain ⟨tx, htx⟩ : ∃ x, x = textT ⟨p, e, od, tg⟩ := ⟨_, rfl⟩
  have HTX : toBE 8 p ++ toBE 8 e ++ (toBE 1 od.kind.toNat ++ bodyT od) = tx := by rw [htx, List.append_assoc]; rfl
  have HPU := hid (fun (W : World) (h : WN w0 (toBE 8 p ++ toBE 8 e) W) => show Calls Tryd.prog 168 #[.pointer (some ⟨w0.heap.size, 0, none⟩), .agg O.toArray] W (fun e' w' => e' = .returned (.tuple #[]) ∧ WN w0 tx w') from by
    have := pputorder_any w0 (toBE 8 p ++ toBE 8 e) od AI AS cI cS W h hk.2.2.1 (hm.later hb0) hr (by rw [List.length_append, toBE_length, toBE_length]; omega)
    rw [HTX, ← hO] at this
    exact this)
  rw [← htx] at htl ⊢
  have HDN := hid (fun (W : World) (h : WN w0 tx W) => wn_done h (by omega))
  have HBG := hid (WN.begin w0)
  rw [← hC]
  clear hx0 hb0 hz0 hk hm hr htl hO hC htx HTX
  go_enter Tryd.func122, Tryd.ntmps122
  go_upto_region 1 with (fail)
  rw [← hw0]
  clear hw0
  try simp only [Act.put, List.setIfInBounds_toArray, List.set_cons_succ, List.set_cons_zero]
  refine wp_region_upto (fun W => At W w.heap.size C.toArray 105) 8 8 (by kernel_rfl) (by kernel_rfl) ?_
  have AT := hid (show WB w0 w0.drew from ⟨trivial, (Below.refl _ _).drew⟩)
  refine wpUpto_takeL (i := 1) (v := .pointer (some ⟨w.heap.size, 0, none⟩)) rfl rfl (by decide +kernel) (by decide +kernel) (by decide +kernel) (by decide +kernel) (by decide) (fun _ _ _ h => h) (Or.inl ⟨by rfl, ?_⟩) (HX.out _ AT.out.2) ?_
  · (intro W hSW; go_simp)
  simp only [List.set_cons_succ, List.set_cons_zero]
  refine wpUpto_takeL (i := 4) (v := .pointer (some ⟨w.heap.size, 1, none⟩)) rfl rfl (by decide +kernel) (by decide +kernel) (by decide +kernel) (by decide +kernel) (by decide) (fun _ _ _ h => h) (Or.inl ⟨by rfl, ?_⟩) (HX.out _ AT.out.2) ?_
  · (intro W hSW; go_simp)
  simp only [List.set_cons_succ, List.set_cons_zero]
  refine wpUpto_takeL (i := 2) (v := .int .u64 (p : Int)) rfl rfl (by decide +kernel) (by decide +kernel) (by decide +kernel) (by decide +kernel) (by decide) (fun _ _ _ h => h) (Or.inl ⟨by rfl, ?_⟩) (HX.out _ AT.out.2) ?_
  · (intro W hSW; have q := (HPC.out W hSW).1; go_simp)
  simp only [List.set_cons_succ, List.set_cons_zero]
  refine wpUpto_takeL (i := 5) (v := .int .u64 (e : Int)) rfl rfl (by decide +kernel) (by decide +kernel) (by decide +kernel) (by decide +kernel) (by decide) (fun _ _ _ h => h) (Or.inl ⟨by rfl, ?_⟩) (HX.out _ AT.out.2) ?_
  · (intro W hSW; have q := (HPC.out W hSW).2; go_simp)
  simp only [List.set_cons_succ, List.set_cons_zero]
  refine wpUpto_one (i := 0) rfl (by decide +kernel) rfl ?_
  intro Q0 hQ0
  go_simp
  have W1 := hid (show WN w0 [] (w0.alloc (.cells #[.nilIface, .slice none 0 0] 154)).drew from HBG.out.drew)
  generalize (w0.alloc (.cells #[.nilIface, .slice none 0 0] 154)).drew = v1 at W1 ⊢
  refine hQ0.out _ _ (fun _ => HX.out _ W1.out.2) ?_
  clear hQ0 Q0 AT
  try simp only [Act.put, List.setIfInBounds_toArray, List.set_cons_succ, List.set_cons_zero]
  refine wpUpto_one (i := 3) rfl (by decide +kernel) rfl ?_
  intro Q0 hQ0
  go_simp
  go_at_call 87
  refine (H8.out v1 W1.out).mono ?_
  rintro e1 v2 ⟨rfl, h2⟩
  have W2 := hid h2
  clear h2
  refine hQ0.out _ _ (fun _ => HX.out _ W2.out.2) ?_
  clear hQ0 Q0
  try simp only [Act.put, List.setIfInBounds_toArray, List.set_cons_succ, List.set_cons_zero]
  refine wpUpto_one (i := 6) rfl (by decide +kernel) rfl ?_
  intro Q0 hQ0
  go_simp
  go_at_call 87
  refine (H9.out v2 W2.out).mono ?_
  rintro e1 v3 ⟨rfl, h3⟩
  have W3 := hid h3
  clear h3
  refine hQ0.out _ _ (fun _ => HX.out _ W3.out.2) ?_
  clear hQ0 Q0
  try simp only [Act.put, List.setIfInBounds_toArray, List.set_cons_succ, List.set_cons_zero]
  refine wpUpto_takeL (i := 7) (v := .pointer (some ⟨w0.heap.size, 0, none⟩)) rfl rfl (by decide +kernel) (by decide +kernel) (by decide +kernel) (by decide +kernel) (by decide) (fun _ _ _ h => h) (Or.inl ⟨by rfl, ?_⟩) (HX.out _ W3.out.2) ?_
  · (intro W hSW; go_simp)
  simp only [List.set_cons_succ, List.set_cons_zero]
  refine wpUpto_done (by decide +kernel) ?_ _
  go_simp
  go_wp2_with (first
    | (refine wpList_valW (by rfl) (run_loadPO (.tmp 14) rfl w.heap.size 2 rfl O (HPO.out _ (HX.out _ W3.out.2)) HOL.out) ?_; try simp only [Act.put, List.setIfInBounds_toArray, List.set_cons_succ, List.set_cons_zero])
    | (go_at_call 168; refine (HPU.out v3 W3.out).mono ?_; rintro e4 v4 ⟨rfl, h4⟩; have W4 := hid h4; clear h4)
    | (go_at_call 89; refine (HDN.out v4 W4.out).mono ?_; rintro e5 v5 ⟨A, c, rfl, h5⟩; have W5 := hid h5; clear h5))
  go_ret
  obtain ⟨h1, h2, h3⟩ := W5.out
  exact ⟨A, c, rfl, own_mono h1 (fun k hk => by have := (World.ownsRow.lt h1 k hk).1; have := HZ0.out; omega), h2, HB0.out.trans (h3.mono HB0.out.size)⟩
end Go.Proofs.YtfmbpdjcoopaeaaDoor

namespace Go.Proofs.YtfmbpdjcoopaeaaDoor
open Go.RowKit

/-- A ticket's fields, checked. -/
theorem pcheck_t (t : Tk13) (AI AS : Option Addr) (cI cS : Nat) (w : World) (hk : okT t) (hm : OrI w w.heap.size t.o AI AS cI cS) (hl : t.o.sl.length ≤ 1000000) (V : World) (hb : Below w.heap.size w V) :
    Calls Tryd.prog 120 #[.int .u64 (t.prev : Int), .int .u64 (t.epoch : Int), .agg (ordV t.o AI AS cI cS).toArray] V fun r W' => r = .returned (errV (mayN t)) ∧ Below V.heap.size V W' :=
  pcheckf_any rgtC_any t.prev t.epoch t.o t.tag AI AS cI cS V hk.1 hk.2.1 hk.2.2.1 (hm.later hb) hl
/-- The ticket's box, beside new memory. -/
def PtM13 (w : World) (C : List Value) (V : World) : Prop := Below w.heap.size w V ∧ At V w.heap.size C.toArray 105
theorem PtM13.start (w : World) (C : List Value) : PtM13 w C (w.alloc (.cells C.toArray 105)) := ⟨(Below.refl _ _).alloc (Nat.le_refl _) _, At.new _ _ _⟩
theorem PtM13.new {w V V' : World} {C : List Value} (k : PtM13 w C V) (hb : Below V.heap.size V V') : PtM13 w C V' := ⟨k.1.trans (hb.mono k.1.size), k.2.new_ hb⟩
set_option maxRecDepth 100000 in
set_option maxHeartbeats 2000000 in
/-- Put, of a ticket. -/
theorem pput13_ok (t : Tk13) (AI AS : Option Addr) (cI cS : Nat) (w : World) (hk : okT t) (hm : OrI w w.heap.size t.o AI AS cI cS) (hl : t.o.sl.length ≤ 1000000) (h0 : mayN t = 0) :
    Calls Tryd.prog 60 #[.agg (tkV t AI AS cI cS).toArray] w fun r w' => ∃ A c, r = .returned (.tuple #[.slice A (putT t).length c, .nilIface]) ∧ Ow w' w.heap.size (.slice A (putT t).length c) (putT t) ∧ Below w.heap.size w w' := by
  obtain ⟨C, hC⟩ : ∃ C, C = tkV t AI AS cI cS := ⟨_, rfl⟩
  obtain ⟨O, hO⟩ : ∃ O, O = ordV t.o AI AS cI cS := ⟨_, rfl⟩
  have hr : rgtO t.o = true := (mayN_zero.1 h0).1
  have HOL := hid (show O.length = 4 by rw [hO]; rfl)
  have HCL := hid (show C.length = 22 by rw [hC]; exact tkV_length hk.2.2.2 _ _ _ _)
  have HCF := hid (fun (V : World) (hb : Below w.heap.size w V) => pcheck_t t AI AS cI cS w hk hm hl V hb)
  have HUT := hid (fun (V : World) (hb : Below w.heap.size w V) => puntagged_any t AI AS cI cS V hk (hm.later hb) hr)
  have HPC := hid (fun (V : World) (x : At V w.heap.size C.toArray 105) => show (V.cell? ⟨w.heap.size, 0, none⟩ = some (.int .u64 (t.prev : Int)) ∧ V.cell? ⟨w.heap.size, 1, none⟩ = some (.int .u64 (t.epoch : Int))) ∧ V.rangeAt w.heap.size 2 O from by
    rw [hC] at x
    rw [hO]
    exact ⟨(tkV_cells x).1, tkV_ord x⟩)
  have HTG := hid (fun (V : World) (x : At V w.heap.size C.toArray 105) => show Rb V V.heap.size (some ⟨w.heap.size, 6, none⟩) t.tag from fun _ => ⟨w.heap.size, 6, rfl, x.lt, by rw [hC] at x; exact tkV_tag x⟩)
  have HTL := hid (show t.tag.length = 16 from hk.2.2.2)
  have HTX := hid (textT_le hk hr)
  have HPT := hid (show putT t = textT t ++ t.tag from rfl)
  rw [HPT.out]
  rw [← hC] at HUT ⊢
  rw [← hO, h0, errV_zero] at HCF
  generalize textT t = tx at HUT HTX HPT ⊢
  generalize t.tag = tg at HTG HTL HPT ⊢
  generalize t.prev = p at HCF HPC
  generalize t.epoch = e at HCF HPC
  have K0 := hid (PtM13.start w C)
  obtain ⟨⟨c0, c1⟩, -⟩ := HPC.out _ K0.out.2
  clear hC hO hk hm hl h0 hr HPT
  go_enter Tryd.func60, Tryd.ntmps60
  go_upto_region 4 with (first
    | (refine wpList_valW (by rfl) (run_loadPO (.tmp 9) rfl w.heap.size 2 rfl O (HPC.out _ K0.out.2).2 HOL.out) ?_; try simp only [Act.put, List.setIfInBounds_toArray, List.set_cons_succ, List.set_cons_zero])
    | (go_at_call 120; refine (HCF.out _ K0.out.1).mono ?_; rintro r1 w1 ⟨rfl, h1⟩; have K1 := hid (K0.out.new h1); clear h1 c0 c1))
  have K2 := hid (K1.out.new ((Below.refl _ _).drew))
  clear K0 K1 HCF HPC
  try simp only [Act.put, List.setIfInBounds_toArray, List.set_cons_succ, List.set_cons_zero]
  refine wp_region_upto (fun W => At W w.heap.size C.toArray 105) 7 7 (by kernel_rfl) (by kernel_rfl) ?_
  generalize w1.drew = w2 at K2 ⊢
  refine wpUpto_takeL (i := 2) (v := .pointer (some ⟨w.heap.size, 6, none⟩)) rfl rfl (by decide +kernel) (by decide +kernel) (by decide +kernel) (by decide +kernel) (by decide) (fun _ _ _ h => h) (Or.inl ⟨by rfl, ?_⟩) K2.out.2 ?_
  · (intro W hSW; go_simp)
  simp only [List.set_cons_succ, List.set_cons_zero]
  refine wpUpto_takeL (i := 3) (v := .slice (some ⟨w.heap.size, 6, none⟩) 16 16) rfl rfl (by decide +kernel) (by decide +kernel) (by decide +kernel) (by decide +kernel) (by decide) (fun _ _ _ h => h) (Or.inl ⟨by rfl, ?_⟩) K2.out.2 ?_
  · (intro W hSW; go_simp)
  simp only [List.set_cons_succ, List.set_cons_zero]
  refine wpUpto_takeL (i := 0) (v := .agg C.toArray) rfl rfl (by decide +kernel) (by decide +kernel) (by decide +kernel) (by decide +kernel) (by decide) (fun _ _ _ h => h) (Or.inl ⟨by rfl, ?_⟩) K2.out.2 ?_
  · (intro W hSW; exact run_loadPT (.tmp 1) rfl w.heap.size rfl C 105 hSW HCL.out)
  simp only [List.set_cons_succ, List.set_cons_zero]
  refine wpUpto_one (i := 1) rfl (by decide +kernel) rfl ?_
  intro Q0 hQ0
  go_simp
  go_at_call 122
  refine (HUT.out w2 K2.out.1).mono ?_
  rintro e1 w3 ⟨A3, c3, rfl, h3, -, hb3⟩
  have K3 := hid (K2.out.new hb3)
  have T3 := hid (show TxW w C 105 (.slice A3 tx.length c3) tx w3 from ⟨K3.out.1, K3.out.2, own_mono h3 (fun k hk => by have := (World.ownsRow.lt h3 k hk).1; have := K2.out.2.lt; omega), by have := K3.out.2.lt; omega⟩)
  refine hQ0.out _ _ (fun _ => K3.out.2) ?_
  clear hQ0 Q0 h3 hb3 K2
  try simp only [Act.put, List.setIfInBounds_toArray, List.set_cons_succ, List.set_cons_zero]
  refine wpUpto_one (i := 4) rfl (by decide +kernel) rfl ?_
  intro Q0 hQ0
  refine wp_append_tx 19 rfl (.tmp 16) (.tmp 18) rfl T3.out rfl w3.heap.size (some ⟨w.heap.size, 6, none⟩) 16 16 tg rfl HTL.out (HTG.out w3 K3.out.2) (by have := HTX.out; omega) ?_
  intro v4 w4 h4
  have T4 := hid h4
  refine hQ0.out _ _ (fun _ => T4.out.c) ?_
  clear hQ0 Q0 h4 T3 K3
  try simp only [Act.put, List.setIfInBounds_toArray, List.set_cons_succ, List.set_cons_zero]
  refine wpUpto_takeL (i := 5) (v := v4) rfl rfl (by decide +kernel) (by decide +kernel) (by decide +kernel) (by decide +kernel) (by decide) (fun _ _ _ h => h) (Or.inl ⟨by rfl, ?_⟩) T4.out.c ?_
  · (intro W hSW; go_simp)
  simp only [List.set_cons_succ, List.set_cons_zero]
  refine wpUpto_takeL (i := 6) (v := .nilIface) rfl rfl (by decide +kernel) (by decide +kernel) (by decide +kernel) (by decide +kernel) (by decide) (fun _ _ _ h => h) (Or.inl ⟨by rfl, ?_⟩) T4.out.c ?_
  · (intro W hSW; go_simp)
  simp only [List.set_cons_succ, List.set_cons_zero]
  refine wpUpto_done (by decide +kernel) ?_ _
  go_simp
  go_wp2
  obtain ⟨A5, c5, rfl⟩ := T4.out.form
  go_ret2
  exact ⟨A5, c5, rfl, own_mono T4.out.o (fun k hk => by have := (World.ownsRow.lt T4.out.o k hk).1; omega), T4.out.bl⟩
/-- hmac.Check over one part. -/
theorem part1 (A : Option Addr) (x : List UInt8) (c n : Nat) (hx : x.length = n) : ([(⟨A, x, c⟩ : Part)]).map Part.v = [.slice A n c] := by
  subst hx
  rfl
theorem joined_one13 (A : Option Addr) (x : List UInt8) (c : Nat) : joined [⟨A, x, c⟩] = x := by simp [joined]
theorem handed_one {W : World} {K A : Option Addr} {key tx : List UInt8} {c g : Nat} (hK : Rb W W.heap.size K key) (hA : Rb W W.heap.size A tx) (hg : At W g #[.slice A tx.length c] 22) (hk : key.length = 32) (hl : tx.length ≤ 100000) (hT : Tabs W) : Handed key K [⟨A, tx, c⟩] (some ⟨g, 0, none⟩) W :=
  ⟨hK, by rw [part1 _ _ _ tx.length rfl]; exact rd_row hg, by
    intro p hp
    simp only [List.mem_cons, List.not_mem_nil, or_false] at hp
    rw [hp]
    exact hA, by omega, by rw [joined_one13]; omega, by simp, hT⟩
theorem phmac_check {W : World} {A : Option Addr} {key tx tg : List UInt8} {c g kb gt : Nat} (hK : Rb W W.heap.size (some ⟨kb, 0, none⟩) key) (hA : Rb W W.heap.size A tx) (hg : At W g #[.slice A tx.length c] 22) (hk : key.length = 32) (hl : tx.length ≤ 100000) (hT : Tabs W) (ht : tg.length = 16) (hTG : Rb W W.heap.size (some ⟨gt, 6, none⟩) tg) :
    Calls Tryd.prog 16 #[.slice (some ⟨gt, 6, none⟩) 16 16, .slice (some ⟨kb, 0, none⟩) 32 32, .slice (some ⟨g, 0, none⟩) 1 1] W fun e' w' => e' = .returned (.bool (tg == (macL key tx).take 16)) ∧ Below W.heap.size W w' := by
  have := check_any tg (some ⟨gt, 6, none⟩) 16 key (some ⟨kb, 0, none⟩) 32 [⟨A, tx, c⟩] (some ⟨g, 0, none⟩) 1 W hTG (by omega) (handed_one hK hA hg hk hl hT)
  rw [hk, joined_one13, ht, ← isTag_short _ _ (macL_length _ _) ht] at this
  exact this
/-- What Check has in memory. -/
structure CkM (w : World) (k : List UInt8) (C : List Value) (V : World) : Prop where
  bl : Below w.heap.size w V
  k : At V w.heap.size (ubs k).toArray 25
  c : At V (w.heap.size + 1) C.toArray 105
theorem CkM.start (w : World) (k : List UInt8) (C : List Value) : CkM w k C ((w.alloc (.cells (ubs k).toArray 25)).alloc (.cells C.toArray 105)) := ⟨((Below.refl _ _).alloc (Nat.le_refl _) _).alloc (by simp) _, (At.new _ _ _).alloc _, At.new_at (by simp)⟩
theorem CkM.new {w V V' : World} {k : List UInt8} {C : List Value} (x : CkM w k C V) (hb : Below V.heap.size V V') : CkM w k C V' := ⟨x.bl.trans (hb.mono x.bl.size), x.k.new_ hb, x.c.new_ hb⟩
/-- What Check's region yields. -/
def ckF (w : World) (C : List Value) (n : Nat) (tx : List UInt8) (r : Bool) (i : Nat) (v : Value) (W : World) : Prop :=
  match i with
  | 0 => v = .pointer (some ⟨w.heap.size + 1, 6, none⟩)
  | 1 => v = .slice (some ⟨w.heap.size + 1, 6, none⟩) 16 16
  | 2 => v = .slice (some ⟨w.heap.size, 0, none⟩) 32 32
  | 3 => v = .agg C.toArray
  | 4 => ∃ A c, v = .slice A n c ∧ Rb W W.heap.size A tx
  | 5 => ∃ g A c, v = .slice (some ⟨g, 0, none⟩) 1 1 ∧ At W g #[.slice A n c] 22 ∧ Rb W W.heap.size A tx
  | 6 => v = .bool r
  | _ => v = .bool (!r)
theorem ckF_new {w : World} {C : List Value} {n : Nat} {tx : List UInt8} {r : Bool} {i : Nat} {v : Value} {W W' : World} (h : ckF w C n tx r i v W) (hb : Below W.heap.size W W') : ckF w C n tx r i v W' := by
  rcases i with _ | _ | _ | _ | _ | _ | _ | i
  iterate 4 exact h
  · obtain ⟨A, c, h1, h2⟩ := h; exact ⟨A, c, h1, (Rd.below h2 hb).mono hb.size⟩
  · obtain ⟨g, A, c, h1, h2, h3⟩ := h; exact ⟨g, A, c, h1, h2.new_ hb, (Rd.below h3 hb).mono hb.size⟩
  · exact h
  · exact h
set_option maxRecDepth 100000 in
set_option maxHeartbeats 2000000 in
/-- Check, of a ticket. -/
theorem pcheck13_ok (key : List UInt8) (t : Tk13) (AI AS : Option Addr) (cI cS : Nat) (w : World) (hkl : key.length = 32) (hk : okT t) (hm : OrI w w.heap.size t.o AI AS cI cS) (hl : t.o.sl.length ≤ 1000000) (h0 : mayN t = 0) (hT : Tabs w) :
    Calls Tryd.prog 61 #[.agg (ubs key).toArray, .agg (tkV t AI AS cI cS).toArray] w fun r w' => r = .returned (errV (if t.tag = tgT key t then 0 else 4)) ∧ Below w.heap.size w w' := by
  obtain ⟨C, hC⟩ : ∃ C, C = tkV t AI AS cI cS := ⟨_, rfl⟩
  obtain ⟨O, hO⟩ : ∃ O, O = ordV t.o AI AS cI cS := ⟨_, rfl⟩
  have hr : rgtO t.o = true := (mayN_zero.1 h0).1
  have HOL := hid (show O.length = 4 by rw [hO]; rfl)
  have HCL := hid (show C.length = 22 by rw [hC]; exact tkV_length hk.2.2.2 _ _ _ _)
  have HCF := hid (fun (V : World) (hb : Below w.heap.size w V) => pcheck_t t AI AS cI cS w hk hm hl V hb)
  have HUT := hid (fun (V : World) (hb : Below w.heap.size w V) => puntagged_any t AI AS cI cS V hk (hm.later hb) hr)
  have HPC := hid (fun (V : World) (x : At V (w.heap.size + 1) C.toArray 105) => show (V.cell? ⟨w.heap.size + 1, 0, none⟩ = some (.int .u64 (t.prev : Int)) ∧ V.cell? ⟨w.heap.size + 1, 1, none⟩ = some (.int .u64 (t.epoch : Int))) ∧ V.rangeAt (w.heap.size + 1) 2 O from by
    rw [hC] at x
    rw [hO]
    exact ⟨(tkV_cells x).1, tkV_ord x⟩)
  have htgr : ∀ (V : World) (x : At V (w.heap.size + 1) C.toArray 105), Rb V V.heap.size (some ⟨w.heap.size + 1, 6, none⟩) t.tag := fun V x _ => ⟨w.heap.size + 1, 6, rfl, x.lt, by rw [hC] at x; exact tkV_tag x⟩
  have htx := textT_le hk hr
  obtain ⟨r, hre⟩ : ∃ r : Bool, (t.tag == (macL key (textT t)).take 16) = r := ⟨_, rfl⟩
  have hrr : (if t.tag = tgT key t then 0 else 4) = (bif r then 0 else 4 : Nat) := by
    rw [← hre]
    by_cases hh : t.tag = tgT key t
    · rw [if_pos hh, beq_iff_eq.2 (show t.tag = (macL key (textT t)).take 16 from hh)]
      rfl
    · rw [if_neg hh, beq_eq_false_iff_ne.2 (show t.tag ≠ (macL key (textT t)).take 16 from hh)]
      rfl
  rw [hrr]
  obtain ⟨tx, htxe⟩ : ∃ x, x = textT t := ⟨_, rfl⟩
  obtain ⟨n, hn⟩ : ∃ n, n = tx.length := ⟨_, rfl⟩
  have HCK := hid (fun (V : World) (x : CkM w key C V) (g : Nat) (A : Option Addr) (c : Nat) (hg : At V g #[.slice A n c] 22) (hA : Rb V V.heap.size A tx) => show Calls Tryd.prog 16 #[.slice (some ⟨w.heap.size + 1, 6, none⟩) 16 16, .slice (some ⟨w.heap.size, 0, none⟩) 32 32, .slice (some ⟨g, 0, none⟩) 1 1] V (fun e' w' => e' = .returned (.bool r) ∧ Below V.heap.size V w') from by
    rw [hn] at hg
    have := phmac_check (rb_at x.k) hA hg hkl (by rw [htxe]; omega) (hT.below x.bl) hk.2.2.2 (htgr V x.c)
    rw [htxe, hre] at this
    exact this)
  rw [← hC] at HUT ⊢
  rw [← htxe, ← hn] at HUT
  rw [← hO, h0, errV_zero] at HCF
  generalize t.prev = p at HCF HPC
  generalize t.epoch = e at HCF HPC
  have K0 := hid (CkM.start w key C)
  obtain ⟨⟨c0, c1⟩, -⟩ := HPC.out _ K0.out.c
  clear hC hO hk hm hl h0 hr htgr htx hre hrr htxe hn hT hkl
  go_enter Tryd.func61, Tryd.ntmps61
  go_upto_region 4 with (first
    | (refine wpList_valW (by rfl) (run_loadPO (.tmp 10) rfl (w.heap.size + 1) 2 rfl O (HPC.out _ K0.out.c).2 HOL.out) ?_; try simp only [Act.put, List.setIfInBounds_toArray, List.set_cons_succ, List.set_cons_zero])
    | (go_at_call 120; refine (HCF.out _ K0.out.bl).mono ?_; rintro r1 w1 ⟨rfl, h1⟩; have K1 := hid (K0.out.new h1); clear h1 c0 c1))
  have K2 := hid (K1.out.new ((Below.refl _ _).drew))
  clear K0 K1 HCF HPC
  try simp only [Act.put, List.setIfInBounds_toArray, List.set_cons_succ, List.set_cons_zero]
  refine wp_region_facts 8 8 [16, 17, 18, 19, 20, 21, 22, 23] (ckF w C n tx r) (CkM w key C) (by kernel_rfl) (by kernel_rfl)
    (fun W W' h hb => h.new hb) (fun _ _ _ _ h hb => ckF_new h hb) (K2.out) ?_ ?_
  · intro i hi vals W K hB hn hK
    simp only [frm_cons, frm_nil, List.set_cons_succ, List.set_cons_zero, Nat.reduceAdd] at hK ⊢
    rcases (by omega : i = 0 ∨ i = 1 ∨ i = 2 ∨ i = 3 ∨ i = 4 ∨ i = 5 ∨ i = 6 ∨ i = 7) with rfl | rfl | rfl | rfl | rfl | rfl | rfl | rfl
    · refine wpOp_plain rfl rfl (wp_val (w' := W) (v := .pointer (some ⟨w.heap.size + 1, 6, none⟩)) (by go_simp) ?_)
      exact hK _ _ rfl (Below.refl _ _)
    · have h0 := hn 0 (by decide +kernel)
      simp only [ckF] at h0
      simp only [h0] at hK ⊢
      refine wpOp_plain rfl rfl (wp_val (w' := W) (v := .slice (some ⟨w.heap.size + 1, 6, none⟩) 16 16) (by go_simp) ?_)
      exact hK _ _ rfl (Below.refl _ _)
    · refine wpOp_plain rfl rfl (wp_val (w' := W) (v := .slice (some ⟨w.heap.size, 0, none⟩) 32 32) (by go_simp) ?_)
      exact hK _ _ rfl (Below.refl _ _)
    · refine wpOp_plain rfl rfl (wp_val (w' := W) (v := .agg C.toArray) (run_loadPT (.tmp 3) rfl (w.heap.size + 1) rfl C 105 hB.c HCL.out) ?_)
      exact hK _ _ rfl (Below.refl _ _)
    · have h3 := hn 3 (by decide +kernel)
      simp only [ckF] at h3
      simp only [h3] at hK ⊢
      refine wpOp_plain rfl rfl ?_
      go_simp
      go_at_call 122
      refine (HUT.out W hB.bl).mono ?_
      rintro e1 W' ⟨A, c, rfl, -, h2, hb⟩
      exact hK _ _ ⟨A, c, rfl, h2⟩ hb
    · have h4 := hn 4 (by decide +kernel)
      obtain ⟨A4, c4, e4, R4⟩ := h4
      simp only [e4] at hK ⊢
      refine wpOp_plain rfl rfl (wp_val (w' := W.alloc (.cells #[.slice A4 n c4] 22)) (v := .slice (some ⟨W.heap.size, 0, none⟩) 1 1) (by go_simp) ?_)
      exact hK _ _ ⟨_, A4, c4, rfl, At.new _ _ _, (Rd.below R4 ((Below.refl _ _).alloc (Nat.le_refl _) _)).mono (by simp)⟩ ((Below.refl _ _).alloc (Nat.le_refl _) _)
    · have h1 := hn 1 (by decide +kernel)
      have h2 := hn 2 (by decide +kernel)
      have h5 := hn 5 (by decide +kernel)
      simp only [ckF] at h1 h2
      obtain ⟨g5, A5, c5, e5, B5, R5⟩ := h5
      simp only [h1, h2, e5] at hK ⊢
      refine wpOp_plain rfl rfl ?_
      go_simp
      go_at_call 16
      refine (HCK.out W hB g5 A5 c5 B5 R5).mono ?_
      rintro e1 W' ⟨rfl, hb⟩
      exact hK _ _ rfl hb
    · have h6 := hn 6 (by decide +kernel)
      simp only [ckF] at h6
      simp only [h6] at hK ⊢
      refine wpOp_plain rfl rfl (wp_val (w' := W) (v := .bool (!r)) (by go_simp) ?_)
      exact hK _ _ rfl (Below.refl _ _)
  · intro vals W hB hF
    have h7 := hF 7 (by omega)
    simp only [ckF] at h7
    simp only [frm_cons, frm_nil, List.set_cons_succ, List.set_cons_zero, Nat.reduceAdd, h7]
    refine wpUpto_done (by decide +kernel) ?_ _
    have HB := hid hB.bl
    clear hB hF h7
    go_simp
    cases r
    · go_wp2
      go_ret
      exact ⟨rfl, HB.out⟩
    · go_wp2
      go_ret
      exact ⟨rfl, HB.out⟩
end Go.Proofs.YtfmbpdjcoopaeaaDoor
