/-
  Layer 13, the program's side: IndexFunc, ContainsFunc; isList, sealedIn.
  Layer 13, the program's side: slices.Equal; sameOrder, Same.
  Layer 13, the program's side: Fits, checkFields.
-/
import Derived.Test.YtfmbpdjcoopaeaaDoorM5
import Derived.Test.YtfmbpdjcoopaeaaDoorM4
import Derived.Test.YtfmbpdjcoopaeaaDoorUg
import Derived.Test.YtfmbpdjcoopaeaaDoorMI
import Derived.Test.YtfmbpdjcoopaeaaDoorK7
import Derived.Test.YtfmbpdjcoopaeaaDoorM6
namespace Go.Proofs.YtfmbpdjcoopaeaaDoor
open Go.RowKit

theorem run_loadPsAt {o : Oper} {a : Go.Act} {W : World} (x : Operand) (ho : o.op = .load 37 x) (b off : Nat) (hx : a.eval x = .pointer (some ⟨b, off, none⟩)) (l : List Value) (hc : W.rangeAt b off l) (hl : l.length = 49) : (execOp a.eval o).run Tryd.prog W = .ok (.value (.agg l.toArray)) W :=
  run_load_part _ x ho b off hx l _ hc Tryd.underlying37 rfl (sizePs_of hl)

set_option maxRecDepth 100000 in
set_option maxHeartbeats 2000000 in
theorem pidxS_any (g : Nat) (lb : Array Value) (hcl : ∀ args V, (callFunc g args).run Tryd.prog V = .ok (.enter g args) V) (l : List Sl13) (A : Option Addr) (c : Nat) (W : World) (hk : ∀ x ∈ l, okS x) (hlen : l.length ≤ 1000000) (I : World → Prop) (b : Sl13 → Bool)
    (h0 : I W) (hS : ∀ V, I V → Ss V V.heap.size A l) (hC : ∀ V x, I V → x ∈ l → Calls Tryd.prog g (#[.agg (slV x).toArray] ++ lb) V fun r V' => r = .returned (.bool (b x)) ∧ I V') :
    Calls Tryd.prog 207 #[.slice A l.length c, .func (.func g) #[] lb] W fun r W' => ∃ k : Int, r = .returned (.int .i64 k) ∧ decide (0 ≤ k) = l.any b ∧ I W' := by
  obtain ⟨n, hn⟩ : ∃ n, n = l.length := ⟨_, rfl⟩
  have HN := hid (show n = l.length ∧ n ≤ 1000000 from ⟨hn, by omega⟩)
  have HC := hid hC
  have HS := hid hS
  have H0 := hid h0
  have HK := hid hk
  rw [← hn]
  clear hn hlen hC hS h0 hk
  go_enter Tryd.func207, Tryd.ntmps207
  go_upto_region 2 with fail
  go_loopw [5, 8] (fun _ v wr => ∃ j : Nat, j ≤ n ∧ v = .int .i64 (j : Int) ∧ Hid (∀ x (h : x < l.length), x < j → b l[x] = false) ∧ Hid (I wr)) (fun _ v _ => n - (intOf v).toNat)
  case atStart => exact ⟨0, by omega, rfl, hid (fun x _ hx => absurd hx (Nat.not_lt_zero x)), H0⟩
  case round =>
    clear H0
    obtain ⟨j, hj, rfl, HX, HW⟩ := hrel
    by_cases hlt : j < n
    · have hd : decide ((j : Int) < (n : Int)) = true := by simp; omega
      have hdn : decide (j < n) = true := by simp; omega
      have ik : (j : Int) < (n : Int) := by omega
      have hjl : j < l.length := by rw [← HN.out.1]; exact hlt
      obtain ⟨g0, q, rfl, -, q1⟩ := (HS.out wr HW.out).at HK.out hjl
      obtain ⟨x, hx⟩ : ∃ x, x = l[j] := ⟨_, rfl⟩
      rw [← hx] at q1
      have HXM := hid (show x ∈ l from by rw [hx]; exact List.getElem_mem hjl)
      cases hb : b x with
      | true =>
        have HA := hid (show l.any b = true from List.any_eq_true.2 ⟨x, HXM.out, hb⟩)
        have HCC := hid (fun (V : World) (x : Sl13) (hV : I V) (hx : x ∈ l) (hb : b x = true) => show Calls Tryd.prog g (#[.agg (slV x).toArray] ++ lb) V (fun r V' => r = .returned (.bool true) ∧ I V') from by
          have := HC.out V x hV hx
          rw [hb] at this
          exact this)
        have HB := hid hb
        clear hlt hj hjl hx HX hb
        have HXK := hid (HK.out x HXM.out)
        obtain ⟨P1, hP1⟩ : ∃ x, x = q + j * 49 := ⟨_, rfl⟩
        rw [show q + 49 * j = P1 by omega] at q1
        have eP1 : q + j * 49 = P1 := hP1.symm
        have Q1 := hid q1
        clear q1 hP1
        go_wp2_with (first
          | (refine wpList_valW (by rfl) (run_loadPsAt (.tmp 14) rfl g0 P1 rfl (slV x) Q1.out (slV_length HXK.out)) ?_))
        refine (HCC.out _ x HW.out HXM.out HB.out).mono ?_
        rintro r1 w1 ⟨rfl, h1⟩
        have K1 := hid h1
        clear h1
        go_wp2
        go_ret
        exact ⟨(j : Int), rfl, by rw [HA.out]; simp, K1.out⟩
      | false =>
        have HCC := hid (fun (V : World) (x : Sl13) (hV : I V) (hx : x ∈ l) (hb : b x = false) => show Calls Tryd.prog g (#[.agg (slV x).toArray] ++ lb) V (fun r V' => r = .returned (.bool false) ∧ I V') from by
          have := HC.out V x hV hx
          rw [hb] at this
          exact this)
        have HB := hid hb
        have HX2 := hid (show ∀ y (h : y < l.length), y < j + 1 → b l[y] = false by
          intro y h hy
          by_cases ey : y = j
          · subst ey
            rw [← hx]
            exact HB.out
          · exact HX.out y h (by omega))
        obtain ⟨j1, hj1⟩ : ∃ q, q = j + 1 := ⟨_, rfl⟩
        rw [← hj1] at HX2
        have e2 : (j : Int) + 1 = (j1 : Int) := by omega
        have ew : IntKind.i64.wrap (j1 : Int) = (j1 : Int) := by rw [IntKind.wrap_i64] <;> have := HN.out <;> omega
        have HMS := hid (show j1 ≤ n ∧ n - j1 < n - j by omega)
        clear hlt hj hjl hx HX hj1 hb
        have HXK := hid (HK.out x HXM.out)
        obtain ⟨P1, hP1⟩ : ∃ x, x = q + j * 49 := ⟨_, rfl⟩
        rw [show q + 49 * j = P1 by omega] at q1
        have eP1 : q + j * 49 = P1 := hP1.symm
        have Q1 := hid q1
        clear q1 hP1
        go_wp2_with (first
          | (refine wpList_valW (by rfl) (run_loadPsAt (.tmp 14) rfl g0 P1 rfl (slV x) Q1.out (slV_length HXK.out)) ?_))
        refine (HCC.out _ x HW.out HXM.out HB.out).mono ?_
        rintro r1 w1 ⟨rfl, h1⟩
        have K1 := hid h1
        clear h1
        go_wp2
        exact ⟨⟨j1, HMS.out.1, rfl, HX2, K1⟩, by
          show n - ((j1 : Int)).toNat < n - ((j : Int)).toNat
          rw [Int.toNat_natCast, Int.toNat_natCast]
          exact HMS.out.2⟩
    · obtain rfl : j = n := by omega
      have hd : decide ((j : Int) < (j : Int)) = false := by simp
      have HA := hid (show l.any b = false from by
        refine Bool.eq_false_iff.2 fun e => ?_
        obtain ⟨x, hx, h⟩ := List.any_eq_true.1 e
        obtain ⟨k, hk, rfl⟩ := List.getElem_of_mem hx
        rw [HX.out k hk (by rw [HN.out.1]; exact hk)] at h
        cases h)
      clear hlt hj HX
      go_wp2
      go_ret
      exact ⟨-1, rfl, by rw [HA.out]; rfl, HW.out⟩
set_option maxRecDepth 100000 in
set_option maxHeartbeats 400000 in
theorem phasS_any (g : Nat) (lb : Array Value) (hcl : ∀ args V, (callFunc g args).run Tryd.prog V = .ok (.enter g args) V) (l : List Sl13) (A : Option Addr) (c : Nat) (W : World) (hk : ∀ x ∈ l, okS x) (hlen : l.length ≤ 1000000) (I : World → Prop) (b : Sl13 → Bool)
    (h0 : I W) (hS : ∀ V, I V → Ss V V.heap.size A l) (hC : ∀ V x, I V → x ∈ l → Calls Tryd.prog g (#[.agg (slV x).toArray] ++ lb) V fun r V' => r = .returned (.bool (b x)) ∧ I V') :
    Calls Tryd.prog 188 #[.slice A l.length c, .func (.func g) #[] lb] W fun r W' => r = .returned (.bool (l.any b)) ∧ I W' := by
  have HI := hid (pidxS_any g lb hcl l A c W hk hlen I b h0 hS hC)
  generalize l.any b = bb at HI ⊢
  clear hcl hlen h0 hS hC hk
  go_enter Tryd.func188, Tryd.ntmps188
  go_wp2_with (first
    | (go_at_call 207; refine HI.out.mono ?_; rintro r1 w1 ⟨k, rfl, hk, h1⟩; have K1 := hid h1; clear h1))
  go_ret
  exact ⟨rfl, K1.out⟩

set_option maxRecDepth 100000 in
theorem pislist_any (l : List Nat) (A : Option Addr) (c : Nat) (W : World) (hr : Nu W W.heap.size A l) :
    Calls Tryd.prog 115 #[.slice A l.length c] W fun r W' => r = .returned (.bool (rgtB 32 l)) ∧ Below W.heap.size W W' := by
  have HR := hid (pright10_any 32 l A c W hr)
  clear hr
  go_enter Tryd.func115, Tryd.ntmps115
  go_wp2_with (first
    | (go_at_call 44; refine HR.out.mono ?_; rintro r1 w1 ⟨rfl, h1⟩; have K1 := hid h1; clear h1))
  go_ret
  exact ⟨rfl, K1.out⟩
theorem int_ne_nat (x e : Nat) : ((x : Int) != (e : Int)) = (x != e) := by
  by_cases h : x = e
  · subst h
    simp
  · rw [bne_iff_ne.2 h, bne_iff_ne.2 (show (x : Int) ≠ (e : Int) by omega)]
theorem all_of_any (l : List Sl13) (e : Nat) : (!(l.any fun x => x.1 != e)) = l.all fun x => decide (x.1 = e) := by
  induction l with
  | nil => rfl
  | cons x l ih =>
    rw [List.any_cons, List.all_cons, Bool.not_or, ih]
    congr 1
    by_cases h : x.1 = e <;> simp [h]
/-- What holds while sealedIn goes on: a box with the epoch. -/
def SiW (W : World) (e : Nat) (V : World) : Prop := Below W.heap.size W V ∧ At V W.heap.size #[.int .u64 (e : Int)] 32
theorem SiW.start (W : World) (e : Nat) : SiW W e (W.alloc (.cells #[.int .u64 (e : Int)] 32)) := ⟨(Below.refl _ _).alloc (Nat.le_refl _) _, At.new _ _ _⟩
theorem SiW.new {W V V' : World} {e : Nat} (h : SiW W e V) (hb : Below V.heap.size V V') : SiW W e V' := ⟨h.1.trans (hb.mono h.1.size), h.2.new_ hb⟩
set_option maxRecDepth 100000 in
set_option maxHeartbeats 1000000 in
theorem psealedin1_any (W : World) (e : Nat) (V : World) (x : Sl13) (h : SiW W e V) (_ : okS x) :
    Calls Tryd.prog 189 (#[.agg (slV x).toArray] ++ #[.pointer (some ⟨W.heap.size, 0, none⟩)]) V fun r V' => r = .returned (.bool (x.1 != e)) ∧ SiW W e V' := by
  have H2 := h.new (V' := V.alloc (.cells (slV x).toArray 37)) ((Below.refl _ _).alloc (Nat.le_refl _) _)
  have K2 := hid H2
  have c1 : (V.alloc (.cells (slV x).toArray 37)).cell? ⟨V.heap.size, 0, none⟩ = some (.int .u64 (x.1 : Int)) := by
    rw [(At.new V (slV x).toArray 37).cell]
    rfl
  have c2 : (V.alloc (.cells (slV x).toArray 37)).cell? ⟨W.heap.size, 0, none⟩ = some (.int .u64 (e : Int)) := by
    rw [H2.2.cell]
    rfl
  obtain ⟨bb, hbb⟩ : ∃ bb, bb = (x.1 != e) := ⟨_, rfl⟩
  rw [← hbb]
  have f1 : ((x.1 : Int) != (e : Int)) = bb := by rw [hbb]; exact int_ne_nat x.1 e
  generalize x.1 = y at c1 f1
  generalize slV x = C at c1 c2 K2 ⊢
  clear h H2 hbb
  go_enter Tryd.func189, Tryd.ntmps189
  go_wp2
  go_ret
  exact ⟨rfl, K2.out⟩
set_option maxRecDepth 100000 in
set_option maxHeartbeats 1000000 in
/-- sealedIn. -/
theorem psealedin_any (l : List Sl13) (e : Nat) (A : Option Addr) (c : Nat) (W : World) (hk : ∀ x ∈ l, okS x) (hlen : l.length ≤ 1000000) (hs : Ss W W.heap.size A l) :
    Calls Tryd.prog 163 #[.slice A l.length c, .int .u64 (e : Int)] W fun r W' => r = .returned (.bool (l.all fun x => decide (x.1 = e))) ∧ Below W.heap.size W W' := by
  have HH := hid (phasS_any 189 #[.pointer (some ⟨W.heap.size, 0, none⟩)] (fun _ _ => rfl) l A c (W.alloc (.cells #[.int .u64 (e : Int)] 32)) hk hlen (SiW W e) (fun x => x.1 != e) (SiW.start W e)
    (fun V h => hs.later h.1) (fun V x h hx => psealedin1_any W e V x h (hk x hx)))
  have HB := hid (all_of_any l e)
  rw [← HB.out]
  clear HB hk hlen hs
  generalize (l.any fun x => x.1 != e) = bb at HH ⊢
  go_enter Tryd.func163, Tryd.ntmps163
  go_wp2_with (first
    | (go_at_call 188; refine HH.out.mono ?_; rintro r1 w1 ⟨rfl, h1⟩; have K1 := hid h1; clear h1))
  go_ret
  exact ⟨rfl, K1.out.1⟩
end Go.Proofs.YtfmbpdjcoopaeaaDoor

namespace Go.Proofs.YtfmbpdjcoopaeaaDoor
open Go.RowKit


set_option maxRecDepth 100000 in
set_option maxHeartbeats 2000000 in
/-- slices.Equal. -/
theorem pequalS_any (l l' : List Sl13) (A B : Option Addr) (c d : Nat) (w : World) (hk : ∀ x ∈ l, okS x) (hk' : ∀ x ∈ l', okS x) (hlen : l.length ≤ 1000000) (hs : Ss w w.heap.size A l) (hs' : Ss w w.heap.size B l') :
    Calls Tryd.prog 170 #[.slice A l.length c, .slice B l'.length d] w fun r w' => r = .returned (.bool (decide (l = l'))) ∧ Below w.heap.size w w' := by
  obtain ⟨n, hn⟩ : ∃ n, n = l.length := ⟨_, rfl⟩
  obtain ⟨n', hn'⟩ : ∃ n, n = l'.length := ⟨_, rfl⟩
  have HN := hid (show n = l.length ∧ n ≤ 1000000 from ⟨hn, by omega⟩)
  have HN' := hid hn'
  have HK := hid (show (∀ x ∈ l, okS x) ∧ ∀ x ∈ l', okS x from ⟨hk, hk'⟩)
  have HS := hid (fun (V : World) (h : Below w.heap.size w V) => show Ss V V.heap.size A l ∧ Ss V V.heap.size B l' from ⟨hs.later h, hs'.later h⟩)
  rw [← hn, ← hn']
  by_cases hz : n = n'
  · subst hz
    clear hn hn' hlen hs hs' hk hk'
    go_enter Tryd.func170, Tryd.ntmps170
    go_upto_region 4 with fail
    have H0 := hid (Below.refl w.heap.size w)
    go_loopw [5, 13] (fun _ v wr => ∃ j : Nat, j ≤ n ∧ v = .int .i64 (j : Int) ∧ Hid (∀ x (h1 : x < l.length) (h2 : x < l'.length), x < j → l[x] = l'[x]) ∧ Hid (Below w.heap.size w wr)) (fun _ v _ => n - (intOf v).toNat)
    case atStart => exact ⟨0, by omega, rfl, hid (fun x _ _ hx => absurd hx (Nat.not_lt_zero x)), H0⟩
    case round =>
      clear H0
      obtain ⟨j, hj, rfl, HX, HW⟩ := hrel
      by_cases hlt : j < n
      · have hd : decide ((j : Int) < (n : Int)) = true := by simp; omega
        have hdn : decide (j < n) = true := by simp; omega
        have ik : (j : Int) < (n : Int) := by omega
        have hjl : j < l.length := by rw [← HN.out.1]; exact hlt
        have hjl' : j < l'.length := by rw [← HN'.out]; exact hlt
        obtain ⟨g, q, rfl, -, q1⟩ := (HS.out wr HW.out).1.at HK.out.1 hjl
        obtain ⟨g', q', rfl, -, q2⟩ := (HS.out wr HW.out).2.at HK.out.2 hjl'
        obtain ⟨x, hx⟩ : ∃ x, x = l[j] := ⟨_, rfl⟩
        obtain ⟨y, hy⟩ : ∃ x, x = l'[j] := ⟨_, rfl⟩
        rw [← hx] at q1
        rw [← hy] at q2
        have HXK := hid (show okS x from by rw [hx]; exact HK.out.1 _ (List.getElem_mem hjl))
        have HYK := hid (show okS y from by rw [hy]; exact HK.out.2 _ (List.getElem_mem hjl'))
        obtain ⟨P1, hP1⟩ : ∃ x, x = q + j * 49 := ⟨_, rfl⟩
        obtain ⟨P2, hP2⟩ : ∃ x, x = q' + j * 49 := ⟨_, rfl⟩
        rw [show q + 49 * j = P1 by omega] at q1
        rw [show q' + 49 * j = P2 by omega] at q2
        have eP1 : q + j * 49 = P1 := hP1.symm
        have eP2 : q' + j * 49 = P2 := hP2.symm
        have Q1 := hid q1
        have Q2 := hid q2
        clear q1 q2 hP1 hP2
        by_cases hq : x = y
        · have HX2 := hid (show ∀ z (h1 : z < l.length) (h2 : z < l'.length), z < j + 1 → l[z] = l'[z] by
            intro z h1 h2 hz
            by_cases ez : z = j
            · subst ez
              rw [← hx, ← hy, hq]
            · exact HX.out z h1 h2 (by omega))
          obtain ⟨j1, hj1⟩ : ∃ q, q = j + 1 := ⟨_, rfl⟩
          rw [← hj1] at HX2
          have e2 : (j : Int) + 1 = (j1 : Int) := by omega
          have ew : IntKind.i64.wrap (j1 : Int) = (j1 : Int) := by rw [IntKind.wrap_i64] <;> have := HN.out <;> omega
          have HMS := hid (show j1 ≤ n ∧ n - j1 < n - j by omega)
          have HNE := hid (show (x.1 == y.1 && x.2.1 == y.2.1 && x.2.2 == y.2.2) = !false by rw [hq]; exact sl_same y)
          clear hlt hj hjl hjl' hx hy HX hj1 hq
          go_wp2
          refine wp_region_quiet_lit (by kernel_rfl) (by kernel_rfl) ?_
          repeat (first
            | go_big_quiet_skip
            | (go_big_quiet_want; rename_i K hK; refine quiet_runC (v := .agg (slV x).toArray) (fun W hW => by obtain ⟨k, rfl⟩ := hW; exact run_loadPsAt (.tmp 18) rfl g P1 rfl (slV x) Q1.out (slV_length HXK.out)) (hK _ ?_); clear hK K; simp only [Act.put, List.setIfInBounds_toArray, List.set_cons_succ, List.set_cons_zero])
            | (go_big_quiet_want; rename_i K hK; refine quiet_runC (v := .agg (slV y).toArray) (fun W hW => by obtain ⟨k, rfl⟩ := hW; exact run_loadPsAt (.tmp 22) rfl g' P2 rfl (slV y) Q2.out (slV_length HYK.out)) (hK _ ?_); clear hK K; simp only [Act.put, List.setIfInBounds_toArray, List.set_cons_succ, List.set_cons_zero])
            | (go_big_quiet_want; rename_i K hK; refine quiet_runC (v := .bool false) (fun W hW => run_neq_psv _ (.tmp 19) (.tmp 23) rfl x.1 y.1 x.2.1 y.2.1 x.2.2 y.2.2 HXK.out.2.1 HYK.out.2.1 HXK.out.2.2 HYK.out.2.2 rfl rfl false HNE.out W) (hK _ ?_); clear hK K; simp only [Act.put, List.setIfInBounds_toArray, List.set_cons_succ, List.set_cons_zero])
            | (go_big_quiet_want; go_big_quiet_op; go_big_quiet_on))
          refine wpQuiet_nil ?_
          intro _ hw'
          obtain ⟨nq, hw''⟩ := hw'
          subst hw''
          have HB := hid (below_drewN HW.out nq)
          clear HW
          generalize wr.drewN nq = W1 at HB ⊢
          go_wp2
          exact ⟨⟨j1, HMS.out.1, rfl, HX2, HB⟩, by
            show n - ((j1 : Int)).toNat < n - ((j : Int)).toNat
            rw [Int.toNat_natCast, Int.toNat_natCast]
            exact HMS.out.2⟩
        · have HO := hid (show decide (l = l') = false from decide_eq_false (fun h => by
            apply hq
            subst h
            rw [hx, hy]))
          have HNE := hid (sl_ne hq)
          clear hlt hj hjl hjl' hx hy HX hq
          go_wp2
          refine wp_region_quiet_lit (by kernel_rfl) (by kernel_rfl) ?_
          repeat (first
            | go_big_quiet_skip
            | (go_big_quiet_want; rename_i K hK; refine quiet_runC (v := .agg (slV x).toArray) (fun W hW => by obtain ⟨k, rfl⟩ := hW; exact run_loadPsAt (.tmp 18) rfl g P1 rfl (slV x) Q1.out (slV_length HXK.out)) (hK _ ?_); clear hK K; simp only [Act.put, List.setIfInBounds_toArray, List.set_cons_succ, List.set_cons_zero])
            | (go_big_quiet_want; rename_i K hK; refine quiet_runC (v := .agg (slV y).toArray) (fun W hW => by obtain ⟨k, rfl⟩ := hW; exact run_loadPsAt (.tmp 22) rfl g' P2 rfl (slV y) Q2.out (slV_length HYK.out)) (hK _ ?_); clear hK K; simp only [Act.put, List.setIfInBounds_toArray, List.set_cons_succ, List.set_cons_zero])
            | (go_big_quiet_want; rename_i K hK; refine quiet_runC (v := .bool true) (fun W hW => run_neq_psv _ (.tmp 19) (.tmp 23) rfl x.1 y.1 x.2.1 y.2.1 x.2.2 y.2.2 HXK.out.2.1 HYK.out.2.1 HXK.out.2.2 HYK.out.2.2 rfl rfl true HNE.out W) (hK _ ?_); clear hK K; simp only [Act.put, List.setIfInBounds_toArray, List.set_cons_succ, List.set_cons_zero])
            | (go_big_quiet_want; go_big_quiet_op; go_big_quiet_on))
          refine wpQuiet_nil ?_
          intro _ hw'
          obtain ⟨nq, hw''⟩ := hw'
          subst hw''
          have HB := hid (below_drewN HW.out nq)
          clear HW
          generalize wr.drewN nq = W1 at HB ⊢
          go_wp2
          go_ret
          exact ⟨congrArg (fun b => Ending.returned (Value.bool b)) HO.out.symm, HB.out⟩
      · obtain rfl : j = n := by omega
        have hd : decide ((j : Int) < (j : Int)) = false := by simp
        have HLL := hid (show l = l' from List.ext_getElem (by rw [← HN.out.1, ← HN'.out]) (fun x h1 h2 => HX.out x h1 h2 (by rw [HN.out.1]; exact h1)))
        clear hlt hj HX
        go_wp2
        go_ret
        exact ⟨congrArg (fun b => Ending.returned (Value.bool b)) (decide_eq_true HLL.out).symm, HW.out⟩
  · have HO := hid (show decide (l = l') = false from decide_eq_false (fun h => by
      apply hz
      rw [HN.out.1, HN'.out, h]))
    have f0 : ((n : Int) != (n' : Int)) = true := by simp; omega
    have f0b : ((n : Int) == (n' : Int)) = false := by simp; omega
    have f0c : decide ((n : Int) = (n' : Int)) = false := by simp; omega
    have f0n : (n != n') = true := by simp; omega
    clear hn hn' hlen hs hs' hz hk hk'
    go_enter Tryd.func170, Tryd.ntmps170
    go_wp2
    go_ret
    exact ⟨congrArg (fun b => Ending.returned (Value.bool b)) HO.out.symm, Below.refl _ _⟩

set_option maxRecDepth 100000 in
set_option maxHeartbeats 2000000 in
/-- slices.Equal. -/
theorem pequalN_any (l l' : List Nat) (A B : Option Addr) (c d : Nat) (w : World) (hlen : l.length ≤ 1000000) (hs : Nu w w.heap.size A l) (hs' : Nu w w.heap.size B l') :
    Calls Tryd.prog 169 #[.slice A l.length c, .slice B l'.length d] w fun r w' => r = .returned (.bool (decide (l = l'))) ∧ Below w.heap.size w w' := by
  obtain ⟨n, hn⟩ : ∃ n, n = l.length := ⟨_, rfl⟩
  obtain ⟨n', hn'⟩ : ∃ n, n = l'.length := ⟨_, rfl⟩
  have HN := hid (show n = l.length ∧ n ≤ 1000000 from ⟨hn, by omega⟩)
  have HN' := hid hn'
  have HS := hid (fun (V : World) (h : Below w.heap.size w V) => show Nu V V.heap.size A l ∧ Nu V V.heap.size B l' from ⟨(Rd.below hs h).mono h.size, (Rd.below hs' h).mono h.size⟩)
  rw [← hn, ← hn']
  by_cases hz : n = n'
  · subst hz
    clear hn hn' hlen hs hs'
    go_enter Tryd.func169, Tryd.ntmps169
    go_upto_region 4 with fail
    have H0 := hid (Below.refl w.heap.size w)
    go_loopw [5, 13] (fun _ v wr => ∃ j : Nat, j ≤ n ∧ v = .int .i64 (j : Int) ∧ Hid (∀ x (h1 : x < l.length) (h2 : x < l'.length), x < j → l[x] = l'[x]) ∧ Hid (Below w.heap.size w wr)) (fun _ v _ => n - (intOf v).toNat)
    case atStart => exact ⟨0, by omega, rfl, hid (fun x _ _ hx => absurd hx (Nat.not_lt_zero x)), H0⟩
    case round =>
      clear H0
      obtain ⟨j, hj, rfl, HX, HW⟩ := hrel
      by_cases hlt : j < n
      · have hd : decide ((j : Int) < (n : Int)) = true := by simp; omega
        have hdn : decide (j < n) = true := by simp; omega
        have ik : (j : Int) < (n : Int) := by omega
        have hjl : j < l.length := by rw [← HN.out.1]; exact hlt
        have hjl' : j < l'.length := by rw [← HN'.out]; exact hlt
        obtain ⟨g, q, rfl, -, q1⟩ := (HS.out wr HW.out).1.at hjl
        obtain ⟨g', q', rfl, -, q2⟩ := (HS.out wr HW.out).2.at hjl'
        obtain ⟨x, hx⟩ : ∃ x, x = l[j] := ⟨_, rfl⟩
        obtain ⟨y, hy⟩ : ∃ x, x = l'[j] := ⟨_, rfl⟩
        rw [← hx] at q1
        rw [← hy] at q2
        by_cases hq : x = y
        · have HX2 := hid (show ∀ z (h1 : z < l.length) (h2 : z < l'.length), z < j + 1 → l[z] = l'[z] by
            intro z h1 h2 hz
            by_cases ez : z = j
            · subst ez
              rw [← hx, ← hy, hq]
            · exact HX.out z h1 h2 (by omega))
          obtain ⟨j1, hj1⟩ : ∃ q, q = j + 1 := ⟨_, rfl⟩
          rw [← hj1] at HX2
          have e2 : (j : Int) + 1 = (j1 : Int) := by omega
          have ew : IntKind.i64.wrap (j1 : Int) = (j1 : Int) := by rw [IntKind.wrap_i64] <;> have := HN.out <;> omega
          have HMS := hid (show j1 ≤ n ∧ n - j1 < n - j by omega)
          subst hq
          clear hlt hj hjl hjl' hx hy HX hj1
          go_wp2
          refine wp_region_quiet_lit (by kernel_rfl) (by kernel_rfl) ?_
          repeat (first
            | go_big_quiet_skip
            | (go_big_quiet_want; go_big_quiet_op; go_big_quiet_on))
          refine wpQuiet_nil ?_
          intro _ hw'
          obtain ⟨nq, hw''⟩ := hw'
          subst hw''
          have HB := hid (below_drewN HW.out nq)
          clear HW q1 q2
          generalize wr.drewN nq = W1 at HB ⊢
          go_wp2
          exact ⟨⟨j1, HMS.out.1, rfl, HX2, HB⟩, by
            show n - ((j1 : Int)).toNat < n - ((j : Int)).toNat
            rw [Int.toNat_natCast, Int.toNat_natCast]
            exact HMS.out.2⟩
        · have HO := hid (show decide (l = l') = false from decide_eq_false (fun h => by
            apply hq
            subst h
            rw [hx, hy]))
          have f0 : ((x : Int) != (y : Int)) = true := by simp; omega
          have f0b : ((x : Int) == (y : Int)) = false := by simp; omega
          have f0c : decide ((x : Int) = (y : Int)) = false := by simp; omega
          have f0n : (x != y) = true := by simp; omega
          have f0m : (x == y) = false := by simp; omega
          have f0d : decide (x = y) = false := by simp; omega
          clear hlt hj hjl hjl' hx hy HX hq
          go_wp2
          refine wp_region_quiet_lit (by kernel_rfl) (by kernel_rfl) ?_
          repeat (first
            | go_big_quiet_skip
            | (go_big_quiet_want; go_big_quiet_op; go_big_quiet_on))
          refine wpQuiet_nil ?_
          intro _ hw'
          obtain ⟨nq, hw''⟩ := hw'
          subst hw''
          have HB := hid (below_drewN HW.out nq)
          clear HW q1 q2
          generalize wr.drewN nq = W1 at HB ⊢
          go_wp2
          go_ret
          exact ⟨congrArg (fun b => Ending.returned (Value.bool b)) HO.out.symm, HB.out⟩
      · obtain rfl : j = n := by omega
        have hd : decide ((j : Int) < (j : Int)) = false := by simp
        have HLL := hid (show l = l' from List.ext_getElem (by rw [← HN.out.1, ← HN'.out]) (fun x h1 h2 => HX.out x h1 h2 (by rw [HN.out.1]; exact h1)))
        clear hlt hj HX
        go_wp2
        go_ret
        exact ⟨congrArg (fun b => Ending.returned (Value.bool b)) (decide_eq_true HLL.out).symm, HW.out⟩
  · have HO := hid (show decide (l = l') = false from decide_eq_false (fun h => by
      apply hz
      rw [HN.out.1, HN'.out, h]))
    have f0 : ((n : Int) != (n' : Int)) = true := by simp; omega
    have f0b : ((n : Int) == (n' : Int)) = false := by simp; omega
    have f0c : decide ((n : Int) = (n' : Int)) = false := by simp; omega
    have f0n : (n != n') = true := by simp; omega
    clear hn hn' hlen hs hs' hz
    go_enter Tryd.func169, Tryd.ntmps169
    go_wp2
    go_ret
    exact ⟨congrArg (fun b => Ending.returned (Value.bool b)) HO.out.symm, Below.refl _ _⟩

theorem sizePO : (Tryd.prog.info? 93).map (·.size) = some 4 := by kernel_rfl
theorem sizePT : (Tryd.prog.info? 105).map (·.size) = some 22 := by kernel_rfl
theorem run_loadPO {o : Oper} {a : Go.Act} {W : World} (x : Operand) (ho : o.op = .load 93 x) (b off : Nat) (hx : a.eval x = .pointer (some ⟨b, off, none⟩)) (l : List Value) (hc : W.rangeAt b off l) (hl : l.length = 4) : (execOp a.eval o).run Tryd.prog W = .ok (.value (.agg l.toArray)) W :=
  run_load_part _ x ho b off hx l _ hc Tryd.underlying93 rfl (by rw [sizePO, hl])
theorem run_loadPT {o : Oper} {a : Go.Act} {W : World} (x : Operand) (ho : o.op = .load 105 x) (b : Nat) (hx : a.eval x = .pointer (some ⟨b, 0, none⟩)) (l : List Value) (T : TypeId) (hc : At W b l.toArray T) (hl : l.length = 22) : (execOp a.eval o).run Tryd.prog W = .ok (.value (.agg l.toArray)) W :=
  run_load_part _ x ho b 0 hx l _ (range_all hc) Tryd.underlying105 rfl (by rw [sizePT, hl])
/-- Two things in memory. -/
structure TwoM (w : World) (C D : List Value) (T : TypeId) (V : World) : Prop where
  bl : Below w.heap.size w V
  a : At V w.heap.size C.toArray T
  b : At V (w.heap.size + 1) D.toArray T
section
variable {w V V' : World} {C D : List Value} {T : TypeId}
theorem TwoM.start : TwoM w C D T ((w.alloc (.cells C.toArray T)).alloc (.cells D.toArray T)) := ⟨((Below.refl _ _).alloc (Nat.le_refl _) _).alloc (by simp) _, (At.new _ _ _).alloc _, At.new_at (by simp)⟩
theorem TwoM.new (k : TwoM w C D T V) (hb : Below V.heap.size V V') : TwoM w C D T V' := ⟨k.bl.trans (hb.mono k.bl.size), k.a.new_ hb, k.b.new_ hb⟩
end
set_option maxRecDepth 100000 in
set_option maxHeartbeats 4000000 in
theorem psameorder_any (o u : Ord13) (AI AS BI BS : Option Addr) (cI cS dI dS : Nat) (w : World) (ho : okO o) (hu : okO u) (hm : OrI w w.heap.size o AI AS cI cS) (hn : OrI w w.heap.size u BI BS dI dS) (hl1 : o.idx.length ≤ 1000000) (hl2 : o.sl.length ≤ 1000000) :
    Calls Tryd.prog 123 #[.agg (ordV o AI AS cI cS).toArray, .agg (ordV u BI BS dI dS).toArray] w fun r w' => r = .returned (.bool (decide (o = u))) ∧ Below w.heap.size w w' := by
  obtain ⟨kd, l, s, b⟩ := o
  obtain ⟨kd', l', s', b'⟩ := u
  obtain ⟨C, hC⟩ : ∃ C, C = ordV ⟨kd, l, s, b⟩ AI AS cI cS := ⟨_, rfl⟩
  obtain ⟨D, hD⟩ : ∃ D, D = ordV ⟨kd', l', s', b'⟩ BI BS dI dS := ⟨_, rfl⟩
  have K0 := hid (TwoM.start (w := w) (C := C) (D := D) (T := 93))
  obtain ⟨n, hnn⟩ : ∃ n, n = l.length := ⟨_, rfl⟩
  obtain ⟨n', hnn'⟩ : ∃ n, n = l'.length := ⟨_, rfl⟩
  obtain ⟨m, hmm⟩ : ∃ n, n = s.length := ⟨_, rfl⟩
  obtain ⟨m', hmm'⟩ : ∃ n, n = s'.length := ⟨_, rfl⟩
  have HOC := hid (fun (V : World) (x : TwoM w C D 93 V) => show (V.cell? ⟨w.heap.size, 0, none⟩ = some (.int .i64 kd) ∧ V.cell? ⟨w.heap.size, 1, none⟩ = some (.slice AI n cI) ∧ V.cell? ⟨w.heap.size, 2, none⟩ = some (.slice AS m cS) ∧ V.cell? ⟨w.heap.size, 3, none⟩ = some (.int .u64 (b : Int))) ∧
      V.cell? ⟨w.heap.size + 1, 0, none⟩ = some (.int .i64 kd') ∧ V.cell? ⟨w.heap.size + 1, 1, none⟩ = some (.slice BI n' dI) ∧ V.cell? ⟨w.heap.size + 1, 2, none⟩ = some (.slice BS m' dS) ∧ V.cell? ⟨w.heap.size + 1, 3, none⟩ = some (.int .u64 (b' : Int)) from by
    have h1 := x.a
    have h2 := x.b
    rw [hC] at h1
    rw [hD] at h2
    rw [hnn, hnn', hmm, hmm']
    exact ⟨ordV_cells h1, ordV_cells h2⟩)
  have HEN := hid (fun (V : World) (x : Below w.heap.size w V) => show Calls Tryd.prog 169 #[.slice AI n cI, .slice BI n' dI] V (fun r w' => r = .returned (.bool (decide (l = l'))) ∧ Below V.heap.size V w') from by
    rw [hnn, hnn']
    exact pequalN_any l l' AI BI cI dI V hl1 (hm.later x).i (hn.later x).i)
  have HES := hid (fun (V : World) (x : Below w.heap.size w V) => show Calls Tryd.prog 170 #[.slice AS m cS, .slice BS m' dS] V (fun r w' => r = .returned (.bool (decide (s = s'))) ∧ Below V.heap.size V w') from by
    rw [hmm, hmm']
    exact pequalS_any s s' AS BS cS dS V ho.2.1 hu.2.1 hl2 (hm.later x).s (hn.later x).s)
  rw [← hC, ← hD]
  obtain ⟨⟨c0, c1, c2, c3⟩, d0, d1, d2, d3⟩ := HOC.out _ K0.out
  clear hC hD ho hu hm hn hl1 hl2 hnn hnn' hmm hmm'
  by_cases hq : kd = kd'
  rotate_left
  · rw [show decide ((⟨kd, l, s, b⟩ : Ord13) = ⟨kd', l', s', b'⟩) = false from decide_eq_false (fun h => hq (congrArg (fun t => t.kind) h))]
    have f0 : ((kd : Int) != (kd' : Int)) = true := by simp; omega
    have f0b : ((kd : Int) == (kd' : Int)) = false := by simp; omega
    have f0c : decide ((kd : Int) = (kd' : Int)) = false := by simp; omega
    clear hq
    go_enter Tryd.func123, Tryd.ntmps123
    go_wp2
    go_ret
    exact ⟨rfl, K0.out.bl⟩
  subst hq
  by_cases hq : l = l'
  rotate_left
  · rw [show decide ((⟨kd, l, s, b⟩ : Ord13) = ⟨kd, l', s', b'⟩) = false from decide_eq_false (fun h => hq (congrArg (fun t => t.idx) h))]
    rw [decide_eq_false hq] at HEN
    clear hq
    go_enter Tryd.func123, Tryd.ntmps123
    go_wp2_with (first
      | (go_at_call 169; refine (HEN.out _ K0.out.bl).mono ?_; rintro r1 w1 ⟨rfl, h1⟩; have K1 := hid (K0.out.new h1); clear h1; clear c0 c1 c2 c3 d0 d1 d2 d3; obtain ⟨⟨c0, c1, c2, c3⟩, d0, d1, d2, d3⟩ := HOC.out _ K1.out))
    go_ret
    exact ⟨rfl, K1.out.bl⟩
  subst hq
  rw [decide_eq_true rfl] at HEN
  by_cases hq : s = s'
  rotate_left
  · rw [show decide ((⟨kd, l, s, b⟩ : Ord13) = ⟨kd, l, s', b'⟩) = false from decide_eq_false (fun h => hq (congrArg (fun t => t.sl) h))]
    rw [decide_eq_false hq] at HES
    clear hq
    go_enter Tryd.func123, Tryd.ntmps123
    go_wp2_with (first
      | (go_at_call 169; refine (HEN.out _ K0.out.bl).mono ?_; rintro r1 w1 ⟨rfl, h1⟩; have K1 := hid (K0.out.new h1); clear h1; clear c0 c1 c2 c3 d0 d1 d2 d3; obtain ⟨⟨c0, c1, c2, c3⟩, d0, d1, d2, d3⟩ := HOC.out _ K1.out)
      | (go_at_call 170; refine (HES.out _ K1.out.bl).mono ?_; rintro r2 w2 ⟨rfl, h2⟩; have K2 := hid (K1.out.new h2); clear h2; clear c0 c1 c2 c3 d0 d1 d2 d3; obtain ⟨⟨c0, c1, c2, c3⟩, d0, d1, d2, d3⟩ := HOC.out _ K2.out))
    go_ret
    exact ⟨rfl, K2.out.bl⟩
  subst hq
  rw [decide_eq_true rfl] at HES
  by_cases hq : b = b'
  rotate_left
  · rw [show decide ((⟨kd, l, s, b⟩ : Ord13) = ⟨kd, l, s, b'⟩) = false from decide_eq_false (fun h => hq (congrArg (fun t => t.blocks) h))]
    have f0 : ((b : Int) != (b' : Int)) = true := by simp; omega
    have f0b : ((b : Int) == (b' : Int)) = false := by simp; omega
    have f0c : decide ((b : Int) = (b' : Int)) = false := by simp; omega
    have f0n : (b != b') = true := by simp; omega
    have f0m : (b == b') = false := by simp; omega
    have f0d : decide (b = b') = false := by simp; omega
    clear hq
    go_enter Tryd.func123, Tryd.ntmps123
    go_wp2_with (first
      | (go_at_call 169; refine (HEN.out _ K0.out.bl).mono ?_; rintro r1 w1 ⟨rfl, h1⟩; have K1 := hid (K0.out.new h1); clear h1; clear c0 c1 c2 c3 d0 d1 d2 d3; obtain ⟨⟨c0, c1, c2, c3⟩, d0, d1, d2, d3⟩ := HOC.out _ K1.out)
      | (go_at_call 170; refine (HES.out _ K1.out.bl).mono ?_; rintro r2 w2 ⟨rfl, h2⟩; have K2 := hid (K1.out.new h2); clear h2; clear c0 c1 c2 c3 d0 d1 d2 d3; obtain ⟨⟨c0, c1, c2, c3⟩, d0, d1, d2, d3⟩ := HOC.out _ K2.out))
    go_ret
    exact ⟨rfl, K2.out.bl⟩
  subst hq
  rw [decide_eq_true (rfl : (⟨kd, l, s, b⟩ : Ord13) = ⟨kd, l, s, b⟩)]
  go_enter Tryd.func123, Tryd.ntmps123
  go_wp2_with (first
    | (go_at_call 169; refine (HEN.out _ K0.out.bl).mono ?_; rintro r1 w1 ⟨rfl, h1⟩; have K1 := hid (K0.out.new h1); clear h1; clear c0 c1 c2 c3 d0 d1 d2 d3; obtain ⟨⟨c0, c1, c2, c3⟩, d0, d1, d2, d3⟩ := HOC.out _ K1.out)
    | (go_at_call 170; refine (HES.out _ K1.out.bl).mono ?_; rintro r2 w2 ⟨rfl, h2⟩; have K2 := hid (K1.out.new h2); clear h2; clear c0 c1 c2 c3 d0 d1 d2 d3; obtain ⟨⟨c0, c1, c2, c3⟩, d0, d1, d2, d3⟩ := HOC.out _ K2.out))
  go_ret
  exact ⟨rfl, K2.out.bl⟩
theorem run_eql16 {o : Oper} {a : Go.Act} (t2 : TypeId) (x y : Operand) (ho : o.op = .binOp .eql 30 x y t2) (u v : List UInt8) (hu : u.length = 16) (hv : v.length = 16) (hx : a.eval x = .agg (ubs u).toArray) (hy : a.eval y = .agg (ubs v).toArray) (r : Bool) (hr : (u == v) = r) (w : World) :
    (execOp a.eval o).run Tryd.prog w = .ok (.value (.bool r)) w :=
  run_eql_op _ _ x y ho _ _ hx hy guard16 r w (by rw [run_eql_struct, run_eq_block w u v hu hv 9998, hr]; rfl)
set_option maxRecDepth 100000 in
set_option maxHeartbeats 4000000 in
/-- Same of the program. -/
theorem psame13_any (t u : Tk13) (AI AS BI BS : Option Addr) (cI cS dI dS : Nat) (w : World) (ht : okT t) (hu : okT u) (hm : OrI w w.heap.size t.o AI AS cI cS) (hn : OrI w w.heap.size u.o BI BS dI dS) (hl1 : t.o.idx.length ≤ 1000000) (hl2 : t.o.sl.length ≤ 1000000) :
    Calls Tryd.prog 62 #[.agg (tkV t AI AS cI cS).toArray, .agg (tkV u BI BS dI dS).toArray] w fun r w' => r = .returned (.bool (decide (t = u))) ∧ Below w.heap.size w w' := by
  obtain ⟨p, e, o, tg⟩ := t
  obtain ⟨p', e', o', tg'⟩ := u
  obtain ⟨C, hC⟩ : ∃ C, C = tkV ⟨p, e, o, tg⟩ AI AS cI cS := ⟨_, rfl⟩
  obtain ⟨D, hD⟩ : ∃ D, D = tkV ⟨p', e', o', tg'⟩ BI BS dI dS := ⟨_, rfl⟩
  have K0 := hid (TwoM.start (w := w) (C := C) (D := D) (T := 105))
  have HTG := hid (show tg.length = 16 from ht.2.2.2)
  have HTG' := hid (show tg'.length = 16 from hu.2.2.2)
  have HOC := hid (fun (V : World) (x : TwoM w C D 105 V) => show (V.cell? ⟨w.heap.size, 0, none⟩ = some (.int .u64 (p : Int)) ∧ V.cell? ⟨w.heap.size, 1, none⟩ = some (.int .u64 (e : Int))) ∧ V.cell? ⟨w.heap.size + 1, 0, none⟩ = some (.int .u64 (p' : Int)) ∧ V.cell? ⟨w.heap.size + 1, 1, none⟩ = some (.int .u64 (e' : Int)) from by
    have h1 := x.a
    have h2 := x.b
    rw [hC] at h1
    rw [hD] at h2
    exact ⟨(tkV_cells h1).1, (tkV_cells h2).1⟩)
  have HOT := hid (fun (V : World) (x : TwoM w C D 105 V) => show V.rangeAt w.heap.size 6 (ubs tg) ∧ V.rangeAt (w.heap.size + 1) 6 (ubs tg') from by
    have h1 := x.a
    have h2 := x.b
    rw [hC] at h1
    rw [hD] at h2
    exact ⟨tkV_tag h1, tkV_tag h2⟩)
  have HOO := hid (fun (V : World) (x : TwoM w C D 105 V) => show V.rangeAt w.heap.size 2 (ordV o AI AS cI cS) ∧ V.rangeAt (w.heap.size + 1) 2 (ordV o' BI BS dI dS) from by
    have h1 := x.a
    have h2 := x.b
    rw [hC] at h1
    rw [hD] at h2
    exact ⟨tkV_ord h1, tkV_ord h2⟩)
  have HSO := hid (fun (V : World) (x : Below w.heap.size w V) => psameorder_any o o' AI AS BI BS cI cS dI dS V ht.2.2.1 hu.2.2.1 (hm.later x) (hn.later x) hl1 hl2)
  obtain ⟨O1, hO1⟩ : ∃ O, O = ordV o AI AS cI cS := ⟨_, rfl⟩
  obtain ⟨O2, hO2⟩ : ∃ O, O = ordV o' BI BS dI dS := ⟨_, rfl⟩
  have HO1 := hid (show O1.length = 4 by rw [hO1]; rfl)
  have HO2 := hid (show O2.length = 4 by rw [hO2]; rfl)
  rw [← hO1, ← hO2] at HOO HSO
  rw [← hC, ← hD]
  obtain ⟨⟨c0, c1⟩, d0, d1⟩ := HOC.out _ K0.out
  clear hC hD ht hu hm hn hl1 hl2 hO1 hO2
  by_cases hq : p = p'
  rotate_left
  · rw [show decide ((⟨p, e, o, tg⟩ : Tk13) = ⟨p', e', o', tg'⟩) = false from decide_eq_false (fun h => hq (congrArg Tk13.prev h))]
    have f0 : ((p : Int) != (p' : Int)) = true := by simp; omega
    have f0b : ((p : Int) == (p' : Int)) = false := by simp; omega
    have f0c : decide ((p : Int) = (p' : Int)) = false := by simp; omega
    have f0n : (p != p') = true := by simp; omega
    have f0m : (p == p') = false := by simp; omega
    have f0d : decide (p = p') = false := by simp; omega
    clear hq
    go_enter Tryd.func62, Tryd.ntmps62
    go_wp2
    go_ret
    exact ⟨rfl, K0.out.bl⟩
  subst hq
  by_cases hq : e = e'
  rotate_left
  · rw [show decide ((⟨p, e, o, tg⟩ : Tk13) = ⟨p, e', o', tg'⟩) = false from decide_eq_false (fun h => hq (congrArg Tk13.epoch h))]
    have f0 : ((e : Int) != (e' : Int)) = true := by simp; omega
    have f0b : ((e : Int) == (e' : Int)) = false := by simp; omega
    have f0c : decide ((e : Int) = (e' : Int)) = false := by simp; omega
    have f0n : (e != e') = true := by simp; omega
    have f0m : (e == e') = false := by simp; omega
    have f0d : decide (e = e') = false := by simp; omega
    clear hq
    go_enter Tryd.func62, Tryd.ntmps62
    go_wp2
    go_ret
    exact ⟨rfl, K0.out.bl⟩
  subst hq
  by_cases hq : o = o'
  rotate_left
  · rw [show decide ((⟨p, e, o, tg⟩ : Tk13) = ⟨p, e, o', tg'⟩) = false from decide_eq_false (fun h => hq (congrArg Tk13.o h))]
    rw [decide_eq_false hq] at HSO
    clear hq
    go_enter Tryd.func62, Tryd.ntmps62
    go_wp2_with (first
      | (go_big_want; rename_i K hK; refine oper_valW (run_loadPO (.tmp 18) rfl w.heap.size 2 rfl O1 (HOO.out _ K0.out).1 HO1.out) (hK _ _ ?_); clear hK K; try simp only [Act.put, List.setIfInBounds_toArray, List.set_cons_succ, List.set_cons_zero])
      | (go_big_want; rename_i K hK; refine oper_valW (run_loadPO (.tmp 20) rfl (w.heap.size + 1) 2 rfl O2 (HOO.out _ K0.out).2 HO2.out) (hK _ _ ?_); clear hK K; try simp only [Act.put, List.setIfInBounds_toArray, List.set_cons_succ, List.set_cons_zero])
      | (go_at_call 123; refine (HSO.out _ K0.out.bl).mono ?_; rintro r1 w1 ⟨rfl, h1⟩; have K1 := hid (K0.out.new h1); clear h1 c0 c1 d0 d1))
    go_ret
    exact ⟨rfl, K1.out.bl⟩
  rw [decide_eq_true hq] at HSO
  by_cases hr : tg = tg'
  rotate_left
  · rw [show decide ((⟨p, e, o, tg⟩ : Tk13) = ⟨p, e, o', tg'⟩) = false from decide_eq_false (fun h => hr (congrArg Tk13.tag h))]
    have HQ := hid (show (tg == tg') = false by simpa using hr)
    clear hq hr
    go_enter Tryd.func62, Tryd.ntmps62
    go_wp2_with (first
      | (go_big_want; rename_i K hK; refine oper_valW (run_loadPO (.tmp 18) rfl w.heap.size 2 rfl O1 (HOO.out _ K0.out).1 HO1.out) (hK _ _ ?_); clear hK K; try simp only [Act.put, List.setIfInBounds_toArray, List.set_cons_succ, List.set_cons_zero])
      | (go_big_want; rename_i K hK; refine oper_valW (run_loadPO (.tmp 20) rfl (w.heap.size + 1) 2 rfl O2 (HOO.out _ K0.out).2 HO2.out) (hK _ _ ?_); clear hK K; try simp only [Act.put, List.setIfInBounds_toArray, List.set_cons_succ, List.set_cons_zero])
      | (go_at_call 123; refine (HSO.out _ K0.out.bl).mono ?_; rintro r1 w1 ⟨rfl, h1⟩; have K1 := hid (K0.out.new h1); clear h1 c0 c1 d0 d1)
      | (go_big_want; rename_i K hK; refine oper_valW (run_load16 (.tmp 25) rfl w.heap.size 6 rfl tg (HOT.out _ K1.out).1 HTG.out) (hK _ _ ?_); clear hK K; try simp only [Act.put, List.setIfInBounds_toArray, List.set_cons_succ, List.set_cons_zero])
      | (go_big_want; rename_i K hK; refine oper_valW (run_load16 (.tmp 27) rfl (w.heap.size + 1) 6 rfl tg' (HOT.out _ K1.out).2 HTG'.out) (hK _ _ ?_); clear hK K; try simp only [Act.put, List.setIfInBounds_toArray, List.set_cons_succ, List.set_cons_zero])
      | (go_big_want; rename_i K hK; refine oper_valW (run_eql16 _ (.tmp 26) (.tmp 28) rfl tg tg' HTG.out HTG'.out rfl rfl false HQ.out _) (hK _ _ ?_); clear hK K; try simp only [Act.put, List.setIfInBounds_toArray, List.set_cons_succ, List.set_cons_zero]))
    go_ret
    exact ⟨rfl, K1.out.bl⟩
  rw [show decide ((⟨p, e, o, tg⟩ : Tk13) = ⟨p, e, o', tg'⟩) = true from decide_eq_true (by rw [hq, hr])]
  have HQ := hid (show (tg == tg') = true by simpa using hr)
  clear hq hr
  go_enter Tryd.func62, Tryd.ntmps62
  go_wp2_with (first
    | (go_big_want; rename_i K hK; refine oper_valW (run_loadPO (.tmp 18) rfl w.heap.size 2 rfl O1 (HOO.out _ K0.out).1 HO1.out) (hK _ _ ?_); clear hK K; try simp only [Act.put, List.setIfInBounds_toArray, List.set_cons_succ, List.set_cons_zero])
    | (go_big_want; rename_i K hK; refine oper_valW (run_loadPO (.tmp 20) rfl (w.heap.size + 1) 2 rfl O2 (HOO.out _ K0.out).2 HO2.out) (hK _ _ ?_); clear hK K; try simp only [Act.put, List.setIfInBounds_toArray, List.set_cons_succ, List.set_cons_zero])
    | (go_at_call 123; refine (HSO.out _ K0.out.bl).mono ?_; rintro r1 w1 ⟨rfl, h1⟩; have K1 := hid (K0.out.new h1); clear h1 c0 c1 d0 d1)
    | (go_big_want; rename_i K hK; refine oper_valW (run_load16 (.tmp 25) rfl w.heap.size 6 rfl tg (HOT.out _ K1.out).1 HTG.out) (hK _ _ ?_); clear hK K; try simp only [Act.put, List.setIfInBounds_toArray, List.set_cons_succ, List.set_cons_zero])
    | (go_big_want; rename_i K hK; refine oper_valW (run_load16 (.tmp 27) rfl (w.heap.size + 1) 6 rfl tg' (HOT.out _ K1.out).2 HTG'.out) (hK _ _ ?_); clear hK K; try simp only [Act.put, List.setIfInBounds_toArray, List.set_cons_succ, List.set_cons_zero])
    | (go_big_want; rename_i K hK; refine oper_valW (run_eql16 _ (.tmp 26) (.tmp 28) rfl tg tg' HTG.out HTG'.out rfl rfl true HQ.out _) (hK _ _ ?_); clear hK K; try simp only [Act.put, List.setIfInBounds_toArray, List.set_cons_succ, List.set_cons_zero]))
  go_ret
  exact ⟨rfl, K1.out.bl⟩
end Go.Proofs.YtfmbpdjcoopaeaaDoor

namespace Go.Proofs.YtfmbpdjcoopaeaaDoor
open Go.RowKit

/-- What Right answers. -/
def RgtC (w : World) : Prop := ∀ (o : Ord13) (AI AS : Option Addr) (cI cS : Nat) (V : World), Below w.heap.size w V → okO o → OrI V V.heap.size o AI AS cI cS → o.sl.length ≤ 1000000 →
  Calls Tryd.prog 53 #[.agg (ordV o AI AS cI cS).toArray] V fun r V' => r = .returned (.bool (rgtO o)) ∧ Below V.heap.size V V'
theorem oneE_all_of {l : List Sl13} {e : Nat} (h : oneE l = true) (hne : l ≠ []) : (l.all fun x => decide (x.1 = e)) = decide ((l.headD (0, [], [])).1 = e) := by
  unfold oneE at h
  rw [List.all_eq_true] at h
  by_cases hq : (l.headD (0, [], [])).1 = e
  · rw [decide_eq_true hq]
    refine List.all_eq_true.2 fun x hx => ?_
    have := h x hx
    rw [Bool.and_eq_true, decide_eq_true_eq] at this
    exact decide_eq_true (this.2.trans hq)
  · rw [decide_eq_false hq]
    refine Bool.eq_false_iff.2 fun h2 => hq ?_
    cases l with
    | nil => exact absurd rfl hne
    | cons x l =>
      have := List.all_eq_true.1 h2 x (by simp)
      exact of_decide_eq_true this
/-- Which error a ticket's fields have. -/
theorem mayN_eq (p e : Nat) (o : Ord13) (tg : List UInt8) (he : e < 18446744073709551616) : mayN ⟨p, e, o, tg⟩ = if rgtO o && o.sl.all (fun x => decide (x.1 = e)) then (if e ≤ p ∨ 18446744073709551615 ≤ e then 1 else 0) else 2 := by
  unfold mayN
  simp only
  cases h : rgtO o with
  | false => simp
  | true =>
    rw [if_pos rfl, Bool.true_and]
    have hs : (o.sl.all fun x => decide (x.1 = e)) = decide (¬ (o.kind = 1 ∧ (o.sl.headD (0, [], [])).1 ≠ e)) := by
      rcases rgtO_cases h with ⟨h0, -, h2, -⟩ | ⟨h0, -, -, h2⟩ | ⟨h0, -, h1, h2, h3⟩
      · rw [h2, h0]
        simp
      · rw [h2, h0]
        simp
      · obtain ⟨-, b2, -⟩ := rgtB_small h1
        rw [oneE_all_of h2 (by intro e2; rw [e2] at h3; simp at h3; omega), h0]
        by_cases hq : (o.sl.headD (0, [], [])).1 = e <;> simp
    rw [hs]
    by_cases hc : o.kind = 1 ∧ (o.sl.headD (0, [], [])).1 ≠ e
    · rw [if_pos hc, if_neg (by simpa using hc)]
    · rw [if_neg hc, if_pos (decide_eq_true hc)]
      unfold rightB
      by_cases h1 : e ≤ p ∨ 18446744073709551615 ≤ e
      · rw [if_pos h1, if_neg]
        simp
        omega
      · rw [if_neg h1, if_pos]
        simp
        omega
/-- What Fits has in memory. -/
structure FtW (W : World) (O : List Value) (b : Nat) (V : World) : Prop where
  bl : Below W.heap.size W V
  o : At V W.heap.size O.toArray 93
  b : At V (W.heap.size + 1) #[.int .u64 (b : Int)] 32
theorem FtW.start (W : World) (O : List Value) (b : Nat) : FtW W O b ((W.alloc (.cells O.toArray 93)).alloc (.cells #[.int .u64 (b : Int)] 32)) := ⟨((Below.refl _ _).alloc (Nat.le_refl _) _).alloc (by simp) _, (At.new _ _ _).alloc _, At.new_at (by simp)⟩
theorem FtW.new {W V V' : World} {O : List Value} {b : Nat} (h : FtW W O b V) (hb : Below V.heap.size V V') : FtW W O b V' := ⟨h.bl.trans (hb.mono h.bl.size), h.o.new_ hb, h.b.new_ hb⟩
set_option maxRecDepth 100000 in
set_option maxHeartbeats 2000000 in
/-- checkFields. -/
theorem pcheckf_any (hR : ∀ w, RgtC w) (p e : Nat) (o : Ord13) (tg : List UInt8) (AI AS : Option Addr) (cI cS : Nat) (W : World) (_ : p < 18446744073709551616) (he : e < 18446744073709551616) (hk : okO o) (hm : OrI W W.heap.size o AI AS cI cS) (hl2 : o.sl.length ≤ 1000000) :
    Calls Tryd.prog 120 #[.int .u64 (p : Int), .int .u64 (e : Int), .agg (ordV o AI AS cI cS).toArray] W fun r W' => r = .returned (errV (mayN ⟨p, e, o, tg⟩)) ∧ Below W.heap.size W W' := by
  obtain ⟨O, hO⟩ : ∃ O, O = ordV o AI AS cI cS := ⟨_, rfl⟩
  obtain ⟨m, hn⟩ : ∃ n, n = o.sl.length := ⟨_, rfl⟩
  have HOL := hid (show O.length = 4 by rw [hO]; rfl)
  have HC := hid (fun (V : World) (x : At V W.heap.size O.toArray 93) => show V.cell? ⟨W.heap.size, 2, none⟩ = some (.slice AS m cS) from by
    rw [hO] at x
    rw [hn]
    exact (ordV_cells x).2.2.1)
  have HRT := hid (fun (V : World) (x : Below W.heap.size W V) => hR W o AI AS cI cS V x hk (hm.later x) hl2)
  have HSE := hid (fun (V : World) (x : Below W.heap.size W V) => psealedin_any o.sl e AS cS V hk.2.1 hl2 (hm.later x).s)
  rw [← hO] at HRT ⊢
  rw [← hn] at HSE
  rw [mayN_eq p e o tg he]
  have e1 : errV 1 = .iface 49 (.int .i64 1) := errV_pos (by decide)
  have e2 : errV 2 = .iface 49 (.int .i64 2) := errV_pos (by decide)
  have K0 := hid (show Below W.heap.size W (W.alloc (.cells O.toArray 93)) ∧ At (W.alloc (.cells O.toArray 93)) W.heap.size O.toArray 93 from ⟨(Below.refl _ _).alloc (Nat.le_refl _) _, At.new _ _ _⟩)
  have c1 := HC.out _ K0.out.2
  generalize (o.sl.all fun x => decide (x.1 = e)) = sb at HSE ⊢
  generalize rgtO o = rb at HRT ⊢
  clear hO hn hk hm hl2
  cases rb with
  | false =>
    rw [show (if (false && sb) = true then (if e ≤ p ∨ 18446744073709551615 ≤ e then 1 else 0) else 2) = 2 from rfl, e2]
    clear he e1
    go_enter Tryd.func120, Tryd.ntmps120
    go_wp2_with (first
      | (refine wpList_valW (by rfl) (run_loadPO (.tmp 5) rfl W.heap.size 0 rfl O (range_all K0.out.2) HOL.out) ?_; try simp only [Act.put, List.setIfInBounds_toArray, List.set_cons_succ, List.set_cons_zero])
      | (go_at_call 53; refine (HRT.out _ K0.out.1).mono ?_; rintro r1 w1 ⟨rfl, h1⟩; have K1 := hid (And.intro (K0.out.1.trans (h1.mono K0.out.1.size)) (K0.out.2.new_ h1)); clear h1 c1; have c1 := HC.out _ K1.out.2))
    go_ret
    exact ⟨rfl, K1.out.1⟩
  | true =>
    cases sb with
    | false =>
      rw [show (if (true && false) = true then (if e ≤ p ∨ 18446744073709551615 ≤ e then 1 else 0) else 2) = 2 from rfl, e2]
      clear he e1
      go_enter Tryd.func120, Tryd.ntmps120
      go_wp2_with (first
        | (refine wpList_valW (by rfl) (run_loadPO (.tmp 5) rfl W.heap.size 0 rfl O (range_all K0.out.2) HOL.out) ?_; try simp only [Act.put, List.setIfInBounds_toArray, List.set_cons_succ, List.set_cons_zero])
        | (go_at_call 53; refine (HRT.out _ K0.out.1).mono ?_; rintro r1 w1 ⟨rfl, h1⟩; have K1 := hid (And.intro (K0.out.1.trans (h1.mono K0.out.1.size)) (K0.out.2.new_ h1)); clear h1 c1; have c1 := HC.out _ K1.out.2)
        | (go_at_call 163; refine (HSE.out _ K1.out.1).mono ?_; rintro r2 w2 ⟨rfl, h2⟩; have K2 := hid (K1.out.1.trans (h2.mono K1.out.1.size)); clear h2 c1))
      go_ret
      exact ⟨rfl, K2.out⟩
    | true =>
      rw [show (if (true && true) = true then (if e ≤ p ∨ 18446744073709551615 ≤ e then 1 else 0) else 2) = (if e ≤ p ∨ 18446744073709551615 ≤ e then 1 else 0) from rfl]
      by_cases h1 : e ≤ p
      · rw [if_pos (.inl h1), e1]
        have f1 : decide ((e : Int) ≤ (p : Int)) = true := by simp; omega
        have f1n : decide (e ≤ p) = true := by simp; omega
        clear he e2 h1
        go_enter Tryd.func120, Tryd.ntmps120
        go_wp2_with (first
          | (refine wpList_valW (by rfl) (run_loadPO (.tmp 5) rfl W.heap.size 0 rfl O (range_all K0.out.2) HOL.out) ?_; try simp only [Act.put, List.setIfInBounds_toArray, List.set_cons_succ, List.set_cons_zero])
          | (go_at_call 53; refine (HRT.out _ K0.out.1).mono ?_; rintro r1 w1 ⟨rfl, h1⟩; have K1 := hid (And.intro (K0.out.1.trans (h1.mono K0.out.1.size)) (K0.out.2.new_ h1)); clear h1 c1; have c1 := HC.out _ K1.out.2)
          | (go_at_call 163; refine (HSE.out _ K1.out.1).mono ?_; rintro r2 w2 ⟨rfl, h2⟩; have K2 := hid (K1.out.1.trans (h2.mono K1.out.1.size)); clear h2 c1))
        go_ret
        exact ⟨rfl, K2.out⟩
      · have f1 : decide ((e : Int) ≤ (p : Int)) = false := by simp; omega
        have f1n : decide (e ≤ p) = false := by simp; omega
        by_cases h2 : 18446744073709551615 ≤ e
        · rw [if_pos (.inr h2), e1]
          have f2 : decide ((18446744073709551615 : Int) ≤ (e : Int)) = true := by simp; omega
          have f2n : decide (18446744073709551615 ≤ e) = true := by simp; omega
          clear he e2 h1 h2
          go_enter Tryd.func120, Tryd.ntmps120
          go_wp2_with (first
            | (refine wpList_valW (by rfl) (run_loadPO (.tmp 5) rfl W.heap.size 0 rfl O (range_all K0.out.2) HOL.out) ?_; try simp only [Act.put, List.setIfInBounds_toArray, List.set_cons_succ, List.set_cons_zero])
            | (go_at_call 53; refine (HRT.out _ K0.out.1).mono ?_; rintro r1 w1 ⟨rfl, h1⟩; have K1 := hid (And.intro (K0.out.1.trans (h1.mono K0.out.1.size)) (K0.out.2.new_ h1)); clear h1 c1; have c1 := HC.out _ K1.out.2)
            | (go_at_call 163; refine (HSE.out _ K1.out.1).mono ?_; rintro r2 w2 ⟨rfl, h2⟩; have K2 := hid (K1.out.1.trans (h2.mono K1.out.1.size)); clear h2 c1))
          go_ret
          exact ⟨rfl, K2.out⟩
        · rw [if_neg (by omega), errV_zero]
          have f2 : decide ((18446744073709551615 : Int) ≤ (e : Int)) = false := by simp; omega
          have f2n : decide (18446744073709551615 ≤ e) = false := by simp; omega
          clear he e1 e2 h1 h2
          go_enter Tryd.func120, Tryd.ntmps120
          go_wp2_with (first
            | (refine wpList_valW (by rfl) (run_loadPO (.tmp 5) rfl W.heap.size 0 rfl O (range_all K0.out.2) HOL.out) ?_; try simp only [Act.put, List.setIfInBounds_toArray, List.set_cons_succ, List.set_cons_zero])
            | (go_at_call 53; refine (HRT.out _ K0.out.1).mono ?_; rintro r1 w1 ⟨rfl, h1⟩; have K1 := hid (And.intro (K0.out.1.trans (h1.mono K0.out.1.size)) (K0.out.2.new_ h1)); clear h1 c1; have c1 := HC.out _ K1.out.2)
            | (go_at_call 163; refine (HSE.out _ K1.out.1).mono ?_; rintro r2 w2 ⟨rfl, h2⟩; have K2 := hid (K1.out.1.trans (h2.mono K1.out.1.size)); clear h2 c1))
          go_ret
          exact ⟨rfl, K2.out⟩
end Go.Proofs.YtfmbpdjcoopaeaaDoor
