/-
  Layer 11, the program's side: a level of Root: sides and above.
  Layer 11, the program's side: Root.
  Layer 11, the program's side: Check.
  Layer 11: what a span's proof out of a tree comes to.
-/
import Derived.Test.YtlmecjnlinalkaaDoorM3
import Derived.Test.YtlmecjnlinalkaaDoorM2
import Derived.Test.YtlmecjnlinalkaaDoorM5
import Derived.Test.YtlmecjnlinalkaaDoorJ1
namespace Go.Proofs.YtlmecjnlinalkaaDoor
open Go.RowKit

theorem flat_parts11 (st : List (List UInt8)) (h : ∀ x ∈ st, x.length = 32) : (List.range st.length).map (hpart st.flatten) = st := by
  refine List.ext_getElem (by simp) fun i h1 h2 => ?_
  rw [List.getElem_map, List.getElem_range, flat_part st i h h2, List.getD_eq_getElem?_getD, List.getElem?_eq_getElem h2]
  rfl
/-- A level with those beside it. -/
def optL11 (f : Nat) (le : List UInt8) (k : Nat) : List (List UInt8) := if (f >>> k) % 2 = 0 then [] else [hpart le (sidL f k).length]
def optR11 (z : Nat) (ri : List UInt8) (k : Nat) : List (List UInt8) := if (z >>> k) % 2 = 1 then [] else [hpart ri (sidR z k).length]
def stL11 (f z : Nat) (lv le ri : List UInt8) (k : Nat) : List (List UInt8) := optL11 f le k ++ lvlS f z lv le ri k ++ optR11 z ri k
theorem lvlS_up (f z : Nat) (lv le ri : List UInt8) (k : Nat) : lvlS f z lv le ri (k + 1) = pairUp (k + 1) (stL11 f z lv le ri k) := by
  rw [lvlS_next]
  rfl
theorem stL11_length {f z : Nat} (lv le ri : List UInt8) (h : f ≤ z) (k : Nat) : (stL11 f z lv le ri k).length = 2 * (z >>> (k + 1) - f >>> (k + 1) + 1) := by
  rw [← even_step h k, stL11, List.length_append, List.length_append, lvlS_length lv le ri h k]
  congr 1
  · congr 1
    unfold optL11
    split <;> rfl
  · unfold optR11
    split <;> rfl
theorem stL11_32 {f z h m : Nat} {lv le ri : List UInt8} (hm : z - f + 1 = m) (hl : lv.length = 32 * m) (hle : le.length = 32 * (sidL f h).length) (hri : ri.length = 32 * (sidR z h).length) {k : Nat} (hk : k < h) : ∀ x ∈ stL11 f z lv le ri k, x.length = 32 := fun x hx => by
  rw [stL11, List.mem_append, List.mem_append] at hx
  rcases hx with (hx | hx) | hx
  · unfold optL11 at hx
    split at hx
    · cases hx
    · rename_i g
      obtain rfl : x = _ := by simpa using hx
      exact hpart_length hle (sidL_lt hk g)
  · exact lvlS_32 lv le ri hm hl k x hx
  · unfold optR11 at hx
    split at hx
    · cases hx
    · rename_i g
      obtain rfl : x = _ := by simpa using hx
      exact hpart_length hri (sidR_lt hk g)
theorem up_level {f z h m : Nat} {lv le ri : List UInt8} (hfz : f ≤ z) (hm : z - f + 1 = m) (hl : lv.length = 32 * m) (hle : le.length = 32 * (sidL f h).length) (hri : ri.length = 32 * (sidR z h).length) {k : Nat} (hk : k < h) :
    upS (k + 1) (stL11 f z lv le ri k).flatten (List.range (z >>> (k + 1) - f >>> (k + 1) + 1)) = (lvlS f z lv le ri (k + 1)).flatten := by
  have h2 := flat_parts11 (stL11 f z lv le ri k) (stL11_32 hm hl hle hri hk)
  rw [stL11_length lv le ri hfz k] at h2
  rw [upS_all, h2, lvlS_up]
theorem shr_gap {f z : Nat} (h : f ≤ z) (k : Nat) : z >>> k - f >>> k ≤ z - f := by
  rw [Nat.shiftRight_eq_div_pow, Nat.shiftRight_eq_div_pow]
  have h1 : z / 2 ^ k ≤ (f + (z - f) * 2 ^ k) / 2 ^ k := Nat.div_le_div_right (by
    have : (z - f) * 1 ≤ (z - f) * 2 ^ k := Nat.mul_le_mul_left _ (Nat.two_pow_pos k)
    omega)
  rw [Nat.add_mul_div_right _ _ (Nat.two_pow_pos k)] at h1
  omega
theorem flat_len11 (st : List (List UInt8)) (h : ∀ x ∈ st, x.length = 32) : st.flatten.length = 32 * st.length := flat_length st h
theorem root_sides {w V : World} {R0 Nb Pb base h f m z k : Nat} {lv le ri : List UInt8} (hk : k < h) (hh : h ≤ 32) (hf : f + m ≤ 2 ^ h) (hm : 1 ≤ m) (hm2 : m ≤ 256) (hz : z = f + m - 1) (hl : lv.length = 32 * m) (hle : le.length = 32 * (sidL f h).length) (hri : ri.length = 32 * (sidR z h).length)
    (x : RtW w R0 Nb Pb base (z >>> k - f >>> k + 1) (lvlS f z lv le ri k).flatten le ri (sidL f h).length (sidR z h).length (sidL f k).length (sidR z k).length V) :
    Calls Tryd.prog 75 #[.int .i64 (k : Int), .int .u64 (f : Int), .int .i64 (m : Int), .func (.func 82) #[] #[.pointer (some ⟨Nb, 0, none⟩), .pointer (some ⟨Pb, 0, none⟩)], .func (.func 84) #[] #[.pointer (some ⟨Nb, 0, none⟩), .pointer (some ⟨Pb, 0, none⟩)]] V
      fun r V' => r = .returned (.tuple #[]) ∧ RtW w R0 Nb Pb base (2 * (z >>> (k + 1) - f >>> (k + 1) + 1)) (stL11 f z lv le ri k).flatten le ri (sidL f h).length (sidR z h).length (sidL f (k + 1)).length (sidR z (k + 1)).length V' := by
  have hpw : (2 : Nat) ^ h ≤ 2 ^ 32 := Nat.pow_le_pow_right (by omega) hh
  have hfz : f ≤ z := by omega
  have hgap := shr_gap hfz k
  have hzm : z - f + 1 = m := by omega
  have hl32 := lvlS_32 lv le ri hzm hl k
  have hlen := lvlS_length lv le ri hfz k
  have hfl := flat_len11 _ hl32
  rw [hlen] at hfl
  refine psides_any _ _ _ _ (fun args V => by kernel_rfl) (fun args V => by kernel_rfl) k f m z V (by omega) (by omega) hm hz
    (RtW w R0 Nb Pb base (z >>> k - f >>> k + 1) (lvlS f z lv le ri k).flatten le ri (sidL f h).length (sidR z h).length (sidL f k).length (sidR z k).length)
    (RtW w R0 Nb Pb base ((optL11 f le k ++ lvlS f z lv le ri k).length) (optL11 f le k ++ lvlS f z lv le ri k).flatten le ri (sidL f h).length (sidR z h).length (sidL f (k + 1)).length (sidR z k).length)
    _ (fun n => x.new (below_drewN (Below.refl _ _) n)) ?_ ?_
  · intro V' hV
    split
    · rename_i g
      rw [sidL_more f k g, optL11, if_pos g, List.nil_append, hlen]
      exact hV
    · rename_i g
      have := proot1_11 (f >>> k - 1) (by omega) (by omega) hfl hle (sidL_lt hk g) hV
      rw [sidL_more' f k g, optL11, if_neg g, List.length_append, List.length_append, hlen, List.flatten_append]
      rw [show [hpart le (sidL f k).length].length + (z >>> k - f >>> k + 1) = z >>> k - f >>> k + 1 + 1 from Nat.add_comm 1 _, show [hpart le (sidL f k).length].flatten = hpart le (sidL f k).length by simp]
      exact this
  · intro V' hV
    have hst := stL11_length lv le ri hfz k
    rw [stL11] at hst ⊢
    have ho : (optL11 f le k).length ≤ 1 := by unfold optL11; split <;> simp
    have hml : ∀ x ∈ optL11 f le k ++ lvlS f z lv le ri k, x.length = 32 := fun x hx => stL11_32 hzm hl hle hri hk x (by rw [stL11]; exact List.mem_append_left _ hx)
    have hmn := flat_len11 _ hml
    have hmlen : (optL11 f le k ++ lvlS f z lv le ri k).length = (optL11 f le k).length + (z >>> k - f >>> k + 1) := by rw [List.length_append, hlen]
    split
    · rename_i g
      rw [optR11, if_pos g, List.append_nil] at hst ⊢
      rw [sidR_more z k g, ← hst]
      exact hV
    · rename_i g
      have := proot2_11 (z >>> k + 1) (by omega) (by omega) hmn hri (sidR_lt hk g) hV
      rw [optR11, if_neg g] at hst ⊢
      rw [sidR_more' z k g, List.length_append, ← hst, List.length_append, List.flatten_append, show [hpart ri (sidR z k).length].flatten = hpart ri (sidR z k).length by simp]
      exact this
end Go.Proofs.YtlmecjnlinalkaaDoor

namespace Go.Proofs.YtlmecjnlinalkaaDoor
open Go.RowKit

theorem hparts_flat : ∀ (n : Nat) (lv : List UInt8), lv.length = 32 * n → ((List.range n).map (hpart lv)).flatten = lv
  | 0, lv, h => by rw [List.eq_nil_of_length_eq_zero (show lv.length = 0 by omega)]; rfl
  | n + 1, lv, h => by
    have ih := hparts_flat n (lv.drop 32) (by rw [List.length_drop]; omega)
    have e : hpart lv ∘ Nat.succ = hpart (lv.drop 32) := funext fun i => by
      show (lv.drop (32 * (i + 1))).take 32 = ((lv.drop 32).drop (32 * i)).take 32
      rw [List.drop_drop, show 32 + 32 * i = 32 * (i + 1) by omega]
    rw [List.range_succ_eq_map, List.map_cons, List.map_map, List.flatten_cons, e, ih, hpart, Nat.mul_zero, List.drop_zero, List.take_append_drop]
theorem root_above {w V : World} {R0 Nb Pb base h f m z k NL NR i j : Nat} {lv le ri : List UInt8} (hk : k < h) (hh : h ≤ 32) (hfz : f ≤ z) (hm2 : m ≤ 256) (hzm : z - f + 1 = m) (hl : lv.length = 32 * m) (hle : le.length = 32 * (sidL f h).length) (hri : ri.length = 32 * (sidR z h).length) (hT : Tabs w)
    (x : RtW w R0 Nb Pb base (2 * (z >>> (k + 1) - f >>> (k + 1) + 1)) (stL11 f z lv le ri k).flatten le ri NL NR i j V) :
    ∃ g c, V.cell? ⟨Nb, 0, none⟩ = some (.slice (some ⟨g, 0, none⟩) (2 * (z >>> (k + 1) - f >>> (k + 1) + 1)) c) ∧ Calls Tryd.prog 85 #[.int .i64 ((k + 1 : Nat) : Int), .slice (some ⟨g, 0, none⟩) (2 * (z >>> (k + 1) - f >>> (k + 1) + 1)) c] V fun e w' => ∃ A c' u, e = .returned (.slice A (z >>> (k + 1) - f >>> (k + 1) + 1) c') ∧ w'.cell? ⟨Nb, 0, none⟩ = some u ∧ w'.frozen? ⟨Nb, 0, none⟩ = false ∧ RtW w R0 Nb Pb base (z >>> (k + 1) - f >>> (k + 1) + 1) (lvlS f z lv le ri (k + 1)).flatten le ri NL NR i j (w'.setCell ⟨Nb, 0, none⟩ (.slice A (z >>> (k + 1) - f >>> (k + 1) + 1) c')) := by
  have hup := up_level hfz hzm hl hle hri hk
  have hln := flat_len11 _ (stL11_32 hzm hl hle hri hk)
  rw [stL11_length lv le ri hfz k] at hln
  have hgap := shr_gap hfz (k + 1)
  obtain ⟨q, hq⟩ : ∃ q, q = z >>> (k + 1) - f >>> (k + 1) + 1 := ⟨_, rfl⟩
  rw [← hq] at x hup hln ⊢
  obtain ⟨v, h1, h2, h3⟩ := x.nb
  obtain ⟨vl, vr, h4, h5, h6⟩ := x.pb
  obtain ⟨A, c, rfl⟩ := h2.form
  obtain ⟨g, rfl, -⟩ := h2.range (i := 0) (by omega)
  obtain ⟨g', o', e, hg, hr⟩ := h2.rd (by intro e; have h := congrArg List.length e; rw [ubs_length, hln, List.length_nil] at h; omega)
  cases e
  refine ⟨g, c, by simpa using h1.cell 0, ?_⟩
  refine (pabove_any (k + 1) g 0 c q _ V (by omega) (by omega) hln (by omega) hg hr (hT.below x.below)).mono ?_
  rintro r w' ⟨A3, c3, rfl, hA, hb⟩
  rw [hup] at hA
  have h1' := h1.new_ hb
  have hs := x.s
  have hn := h1.lt
  refine ⟨A3, c3, _, rfl, by simpa using h1'.cell 0, h1'.frozen 0, ⟨⟨_, h1'.put 0 _, (hA.far (p := ⟨Nb, 0, none⟩) h1.lt _).mono hs, fun e => by have := (hA.lt Nb e).1; omega⟩, ⟨vl, vr, (h4.new_ hb).far x.lo.2.2.2.2.2.1 _, h5, h6⟩, (x.r0.new_ hb).far x.lo.2.2.2.2.2.2.1 _, x.lo, ?_, (x.below.trans (hb.mono x.below.size)).setCell (p := ⟨Nb, 0, none⟩) x.lo.2.2.1 _⟩⟩
  have h7 := hb.size
  have : (w'.setCell ⟨Nb, 0, none⟩ (.slice A3 q c3)).heap.size = w'.heap.size := by simp [World.setCell]
  omega
theorem root_end {w V : World} {R0 Nb Pb base NL NR i j : Nat} {root le ri : List UInt8} (hr : root.length = 32) (x : RtW w R0 Nb Pb base 1 root le ri NL NR i j V) :
    ∃ g c, V.cell? ⟨Nb, 0, none⟩ = some (.slice (some ⟨g, 0, none⟩) 1 c) ∧ V.rangeAt g 0 (ubs root) := by
  obtain ⟨v, h1, h2, h3⟩ := x.nb
  obtain ⟨A, c, rfl⟩ := h2.form
  obtain ⟨g, rfl, -⟩ := h2.range (i := 0) (by omega)
  obtain ⟨g', o', e, hg, hr⟩ := h2.rd (by intro e; have h := congrArg List.length e; rw [ubs_length, hr, List.length_nil] at h; omega)
  cases e
  exact ⟨g, c, by simpa using h1.cell 0, hr⟩
set_option maxRecDepth 100000 in
set_option maxHeartbeats 2000000 in
theorem proot11_no1 (h : Int) (f m nl nr c cE cI : Nat) (A AE AI : Option Addr) (W : World) (hf : f < 2 ^ 64) (hg : spanB h f (m : Int) = false) :
    Calls Tryd.prog 46 #[.int .i64 h, .int .u64 (f : Int), .slice A m c, .agg #[.slice AE nl cE, .slice AI nr cI]] W fun r W' => r = .returned (.tuple #[.agg (ubs n32).toArray, errV 1]) ∧ Below W.heap.size W W' := by
  obtain ⟨n0, hn0⟩ : ∃ m, m = n32 := ⟨_, rfl⟩
  have HAH := hid (fun (o : Oper) (a : Go.Act) (W : World) (h : o.op = .alloc 25) => run_alloc_of (o := o) (a := a) (W := W) _ h _ zeroH8)
  have HBH := hid (fun (o : Oper) (a : Go.Act) (W : World) (h : o.op = .build 25 #[]) => run_build_hash0 (o := o) (a := a) (W := W) h)
  have HNL := hid (show n0.length = 32 by rw [hn0]; exact n32_length)
  rw [← hn0] at HAH HBH
  have HN0 := hid hn0
  clear hn0
  obtain ⟨w0, hw0⟩ : ∃ w0, w0 = ((W.alloc (.cells #[.slice AE nl cE, .slice AI nr cI] 74)).alloc (.cells (ubs n0).toArray 25)) := ⟨_, rfl⟩
  have hb0 : Below W.heap.size W w0 := by rw [hw0]; exact ((Below.refl _ _).alloc (Nat.le_refl _) _).alloc (by simp) _
  have X0 := hid (show At w0 (W.heap.size + 1) (ubs n0).toArray 25 by rw [hw0]; exact At.new_at (by simp))
  have P0 := hid (show At w0 W.heap.size #[.slice AE nl cE, .slice AI nr cI] 74 by rw [hw0]; exact (At.new _ _ _).alloc _)
  have B0 := hid hb0
  have HC := hid (pcounts_no h (m : Int) f w0 hf hg)
  have e1 : errV 1 = .iface 42 (.int .i64 1) := rfl
  rw [e1] at HC ⊢
  clear hf hg e1 hb0
  go_enter Tryd.func46, Tryd.ntmps46
  go_wp2_with (first
    | (refine Great.wpList_allocTo rfl _ rfl _ _ (HAH.out _ _ _ rfl) ?_)
    | (rw [← hw0]; clear hw0; go_at_call 41; refine HC.out.mono ?_; rintro r1 w1 ⟨rfl, hb1⟩; have B1 := hid (B0.out.trans (hb1.mono B0.out.size)); have X1 := hid (X0.out.new_ hb1); have P1 := hid (P0.out.new_ hb1); have q0 := P1.out.cell 0; have q1 := P1.out.cell 1; simp at q0 q1; clear hb1)
    | (refine wpList_valW (by rfl) (HBH.out _ _ _ rfl) ?_)
    | (refine wpList_store_row rfl _ (.tmp 8) (.tmp 27) rfl (W.heap.size + 1) (ubs n0).toArray rfl rfl 25 (ubs n0).toArray X1.out (sizeH_of HNL.out) ?e5 (ubs_all _) ?e6; rotate_right))
  case e5 => rfl
  refine bodyPost_ret (results_row_tmp rfl _ _ (W.heap.size + 1) 25 (ubs n0).toArray (0, 0) _ rfl (setRow_heap _ _ _ _ _ _ X1.out) Tryd.underlying25 rfl (sizeH_of HNL.out)) rfl ?_
  exact ⟨by rw [← HN0.out]; rfl, below_setRow B1.out (by omega) _⟩
set_option maxRecDepth 100000 in
set_option maxHeartbeats 2000000 in
theorem proot11_no5 (h f m nl nr c cE cI : Nat) (A AE AI : Option Addr) (W : World) (hg : spanB (h : Int) f (m : Int) = true) (hne : nl ≠ (sidL f h).length ∨ nl = (sidL f h).length ∧ nr ≠ (sidR (f + m - 1) h).length) :
    Calls Tryd.prog 46 #[.int .i64 (h : Int), .int .u64 (f : Int), .slice A m c, .agg #[.slice AE nl cE, .slice AI nr cI]] W fun r W' => r = .returned (.tuple #[.agg (ubs n32).toArray, errV 5]) ∧ Below W.heap.size W W' := by
  obtain ⟨n0, hn0⟩ : ∃ m, m = n32 := ⟨_, rfl⟩
  have HAH := hid (fun (o : Oper) (a : Go.Act) (W : World) (h : o.op = .alloc 25) => run_alloc_of (o := o) (a := a) (W := W) _ h _ zeroH8)
  have HBH := hid (fun (o : Oper) (a : Go.Act) (W : World) (h : o.op = .build 25 #[]) => run_build_hash0 (o := o) (a := a) (W := W) h)
  have HNL := hid (show n0.length = 32 by rw [hn0]; exact n32_length)
  rw [← hn0] at HAH HBH
  have HN0 := hid hn0
  clear hn0
  obtain ⟨w0, hw0⟩ : ∃ w0, w0 = ((W.alloc (.cells #[.slice AE nl cE, .slice AI nr cI] 74)).alloc (.cells (ubs n0).toArray 25)) := ⟨_, rfl⟩
  have hb0 : Below W.heap.size W w0 := by rw [hw0]; exact ((Below.refl _ _).alloc (Nat.le_refl _) _).alloc (by simp) _
  have X0 := hid (show At w0 (W.heap.size + 1) (ubs n0).toArray 25 by rw [hw0]; exact At.new_at (by simp))
  have P0 := hid (show At w0 W.heap.size #[.slice AE nl cE, .slice AI nr cI] 74 by rw [hw0]; exact (At.new _ _ _).alloc _)
  have B0 := hid hb0
  have HC := hid (pcounts_ok h f m w0 hg)
  obtain ⟨n1, hn1⟩ : ∃ n, n = (sidL f h).length := ⟨_, rfl⟩
  obtain ⟨n2, hn2⟩ : ∃ n, n = (sidR (f + m - 1) h).length := ⟨_, rfl⟩
  rw [← hn1] at HC hne
  rw [← hn2] at HC hne
  have e5 : errV 5 = .iface 42 (.int .i64 5) := rfl
  rw [e5]
  clear hg e5 hb0 hn1 hn2
  rcases hne with hne | ⟨rfl, hne⟩
  · have k1 : decide ((nl : Int) = (n1 : Int)) = false := by simp; omega
    have k1b : ((nl : Int) == (n1 : Int)) = false := by simp; omega
    have k1c : ((nl : Int) != (n1 : Int)) = true := by simp; omega
    have k1d : (nl == n1) = false := by simp; omega
    have k1e : (nl != n1) = true := by simp; omega
    clear hne
    go_enter Tryd.func46, Tryd.ntmps46
    go_wp2_with (first
      | (refine Great.wpList_allocTo rfl _ rfl _ _ (HAH.out _ _ _ rfl) ?_)
      | (rw [← hw0]; clear hw0; go_at_call 41; refine HC.out.mono ?_; rintro r1 w1 ⟨rfl, hb1⟩; have B1 := hid (B0.out.trans (hb1.mono B0.out.size)); have X1 := hid (X0.out.new_ hb1); have P1 := hid (P0.out.new_ hb1); have q0 := P1.out.cell 0; have q1 := P1.out.cell 1; simp at q0 q1; clear hb1)
      | (refine wpList_valW (by rfl) (HBH.out _ _ _ rfl) ?_)
      | (refine wpList_store_row rfl _ (.tmp 8) (.tmp 42) rfl (W.heap.size + 1) (ubs n0).toArray rfl rfl 25 (ubs n0).toArray X1.out (sizeH_of HNL.out) ?e5 (ubs_all _) ?e6; rotate_right))
    case e5 => rfl
    refine bodyPost_ret (results_row_tmp rfl _ _ (W.heap.size + 1) 25 (ubs n0).toArray (0, 0) _ rfl (setRow_heap _ _ _ _ _ _ X1.out) Tryd.underlying25 rfl (sizeH_of HNL.out)) rfl ?_
    exact ⟨by rw [← HN0.out]; rfl, below_setRow B1.out (by omega) _⟩
  · have k1 : decide ((nl : Int) = (nl : Int)) = true := by simp
    have k1b : ((nl : Int) == (nl : Int)) = true := by simp
    have k1c : ((nl : Int) != (nl : Int)) = false := by simp
    have k1d : (nl == nl) = true := by simp
    have k1e : (nl != nl) = false := by simp
    have l1 : decide ((nr : Int) = (n2 : Int)) = false := by simp; omega
    have l1b : ((nr : Int) == (n2 : Int)) = false := by simp; omega
    have l1c : ((nr : Int) != (n2 : Int)) = true := by simp; omega
    have l1d : (nr == n2) = false := by simp; omega
    have l1e : (nr != n2) = true := by simp; omega
    clear hne
    go_enter Tryd.func46, Tryd.ntmps46
    go_wp2_with (first
      | (refine Great.wpList_allocTo rfl _ rfl _ _ (HAH.out _ _ _ rfl) ?_)
      | (rw [← hw0]; clear hw0; go_at_call 41; refine HC.out.mono ?_; rintro r1 w1 ⟨rfl, hb1⟩; have B1 := hid (B0.out.trans (hb1.mono B0.out.size)); have X1 := hid (X0.out.new_ hb1); have P1 := hid (P0.out.new_ hb1); have q0 := P1.out.cell 0; have q1 := P1.out.cell 1; simp at q0 q1; clear hb1)
      | (refine wpList_valW (by rfl) (HBH.out _ _ _ rfl) ?_)
      | (refine wpList_store_row rfl _ (.tmp 8) (.tmp 42) rfl (W.heap.size + 1) (ubs n0).toArray rfl rfl 25 (ubs n0).toArray X1.out (sizeH_of HNL.out) ?e7 (ubs_all _) ?e8; rotate_right))
    case e7 => rfl
    refine bodyPost_ret (results_row_tmp rfl _ _ (W.heap.size + 1) 25 (ubs n0).toArray (0, 0) _ rfl (setRow_heap _ _ _ _ _ _ X1.out) Tryd.underlying25 rfl (sizeH_of HNL.out)) rfl ?_
    exact ⟨by rw [← HN0.out]; rfl, below_setRow B1.out (by omega) _⟩
set_option maxRecDepth 100000 in
set_option maxHeartbeats 4000000 in
theorem proot11_ok (h f m c cE cI : Nat) (lv le ri : List UInt8) (A AE AI : Option Addr) (W : World) (hg : spanB (h : Int) f (m : Int) = true) (hcE : (sidL f h).length ≤ cE) (hcI : (sidR (f + m - 1) h).length ≤ cI) (hlv : lv.length = 32 * m) (hle : le.length = 32 * (sidL f h).length) (hri : ri.length = 32 * (sidR (f + m - 1) h).length) (hV : Rd W W.heap.size A (ubs lv)) (hE : Rd W W.heap.size AE (ubs le)) (hI : Rd W W.heap.size AI (ubs ri)) (hT : Tabs W) :
    Calls Tryd.prog 46 #[.int .i64 (h : Int), .int .u64 (f : Int), .slice A m c, .agg #[.slice AE (sidL f h).length cE, .slice AI (sidR (f + m - 1) h).length cI]] W fun r W' => r = .returned (.tuple #[.agg (ubs (spanN f (sidL f h) (sidR (f + m - 1) h) lv le ri h 0)).toArray, .nilIface]) ∧ Below W.heap.size W W' := by
  obtain ⟨k', n', e1, e2, hh, h0, h2, h3⟩ := spanB_parts hg
  obtain rfl : h = k' := by omega
  obtain rfl : m = n' := by omega
  have hpw : (2 : Nat) ^ h ≤ 2 ^ 32 := Nat.pow_le_pow_right (by omega) hh
  obtain ⟨z, hz⟩ : ∃ z, z = f + m - 1 := ⟨_, rfl⟩
  rw [← hz] at hcI hri ⊢
  have hzm : z - f + 1 = m := by omega
  have hfz : f ≤ z := by omega
  have hroot := lvl_root lv le ri hfz (show z < 2 ^ h by omega)
  have HTL := hid (spanN_length hzm hlv hle hri h 0 (.inr (.inr ⟨by rw [shr_all (show f < 2 ^ h by omega)]; omega, Nat.zero_le _⟩)) : (spanN f (sidL f h) (sidR z h) lv le ri h 0).length = 32)
  generalize spanN f (sidL f h) (sidR z h) lv le ri h 0 = root at hroot HTL ⊢
  obtain ⟨nl, hnl⟩ : ∃ n, n = (sidL f h).length := ⟨_, rfl⟩
  obtain ⟨nr, hnr⟩ : ∃ n, n = (sidR z h).length := ⟨_, rfl⟩
  obtain ⟨n0, hn0⟩ : ∃ m, m = n32 := ⟨_, rfl⟩
  have HAH := hid (fun (o : Oper) (a : Go.Act) (W : World) (h : o.op = .alloc 25) => run_alloc_of (o := o) (a := a) (W := W) _ h _ zeroH8)
  have HBH := hid (fun (o : Oper) (a : Go.Act) (W : World) (h : o.op = .build 25 #[]) => run_build_hash0 (o := o) (a := a) (W := W) h)
  have HNL := hid (show n0.length = 32 by rw [hn0]; exact n32_length)
  rw [← hn0] at HAH HBH
  have HN0 := hid hn0
  clear hn0
  obtain ⟨w0, hw0⟩ : ∃ w0, w0 = ((W.alloc (.cells #[.slice AE nl cE, .slice AI nr cI] 74)).alloc (.cells (ubs n0).toArray 25)) := ⟨_, rfl⟩
  have hb0 : Below W.heap.size W w0 := by rw [hw0]; exact ((Below.refl _ _).alloc (Nat.le_refl _) _).alloc (by simp) _
  have X0 := hid (show At w0 (W.heap.size + 1) (ubs n0).toArray 25 by rw [hw0]; exact At.new_at (by simp))
  have P0 := hid (show At w0 W.heap.size #[.slice AE nl cE, .slice AI nr cI] 74 by rw [hw0]; exact (At.new _ _ _).alloc _)
  have B0 := hid hb0
  have HC := hid (pcounts_ok h f m w0 hg)
  rw [← hz, ← hnl, ← hnr] at HC
  rw [← hnl, ← hnr]
  have HCL := hid (fun (V : World) (b : Below W.heap.size W V) => pclone_any m c lv A V h0 (by omega) hlv ((hV.below b).mono b.size))
  have HS := hid (fun (k : Nat) (hk : k < h) (V : World) (Nb base : Nat) (x : RtW W (W.heap.size + 1) Nb W.heap.size base (z >>> k - f >>> k + 1) (lvlS f z lv le ri k).flatten le ri nl nr (sidL f k).length (sidR z k).length V) => root_sides hk hh h3 h0 (by omega) hz hlv hle hri (by rw [← hnl, ← hnr]; exact x))
  rw [← hnl, ← hnr] at HS
  have HU := hid (fun (k : Nat) (hk : k < h) (V : World) (Nb base i j : Nat) (x : RtW W (W.heap.size + 1) Nb W.heap.size base (2 * (z >>> (k + 1) - f >>> (k + 1) + 1)) (stL11 f z lv le ri k).flatten le ri nl nr i j V) => root_above hk hh hfz (by omega) hzm hlv hle hri hT x)
  have H0 := hid (fun (V : World) (Nb base : Nat) (v : Value) (h1 : At V Nb #[v] 31) (h2 : Ah V base v m lv) (h3 : v.ownBlock ≠ some Nb) (p : At V W.heap.size #[.slice AE nl cE, .slice AI nr cI] 74) (r : At V (W.heap.size + 1) (ubs n0).toArray 25) (l : W.heap.size + 2 ≤ base ∧ base ≤ Nb) (s : base ≤ V.heap.size) (b : Below W.heap.size W V) =>
    show RtW W (W.heap.size + 1) Nb W.heap.size base (z >>> 0 - f >>> 0 + 1) (lvlS f z lv le ri 0).flatten le ri nl nr (sidL f 0).length (sidR z 0).length V from by
      rw [sidL_zero, sidR_zero, lvlS_zero, Nat.shiftRight_zero, Nat.shiftRight_zero, hzm, hparts_flat m lv hlv]
      rw [HN0.out] at r
      exact ⟨⟨v, h1, h2, h3⟩, ⟨_, _, p, ⟨AE, cE, rfl, by omega, hE⟩, ⟨AI, cI, rfl, by omega, hI⟩⟩, r, by omega, s, b⟩)
  have HR0 := hid (fun (V : World) (Nb base i j : Nat) (x : RtW W (W.heap.size + 1) Nb W.heap.size base (z >>> h - f >>> h + 1) (lvlS f z lv le ri h).flatten le ri nl nr i j V) => show (∃ g c, V.cell? ⟨Nb, 0, none⟩ = some (.slice (some ⟨g, 0, none⟩) 1 c) ∧ V.rangeAt g 0 (ubs root)) ∧ At V (W.heap.size + 1) (ubs n0).toArray 25 ∧ Below W.heap.size W V from by
    rw [hroot, shr_all (show z < 2 ^ h by omega), shr_all (show f < 2 ^ h by omega), show [root].flatten = root by simp] at x
    exact ⟨root_end HTL.out x, by rw [HN0.out]; exact x.r0, x.below⟩)
  have HH := hid hh
  have k1 : decide ((nl : Int) = (nl : Int)) = true := by simp
  have k1b : ((nl : Int) == (nl : Int)) = true := by simp
  have k1c : ((nl : Int) != (nl : Int)) = false := by simp
  have k1d : (nl == nl) = true := by simp
  have k1e : (nl != nl) = false := by simp
  have l1 : decide ((nr : Int) = (nr : Int)) = true := by simp
  have l1b : ((nr : Int) == (nr : Int)) = true := by simp
  have l1c : ((nr : Int) != (nr : Int)) = false := by simp
  have l1d : (nr == nr) = true := by simp
  have l1e : (nr != nr) = false := by simp
  clear hg e1 e2 hh h0 h2 h3 hpw hz hcE hcI hlv hle hri hV hE hI hT hzm hfz hroot hnl hnr hb0
  go_enter Tryd.func46, Tryd.ntmps46
  go_wp2_with (first
    | (refine Great.wpList_allocTo rfl _ rfl _ _ (HAH.out _ _ _ rfl) ?_)
    | (rw [← hw0]; clear hw0; go_at_call 41; refine HC.out.mono ?_; rintro r1 w1 ⟨rfl, hb1⟩; have B1 := hid (B0.out.trans (hb1.mono B0.out.size)); have X1 := hid (X0.out.new_ hb1); have P1 := hid (P0.out.new_ hb1); have q0 := P1.out.cell 0; have q1 := P1.out.cell 1; simp at q0 q1; clear hb1)
    | (go_at_call 81; refine (HCL.out w1 B1.out).mono ?_; rintro r2 w2 ⟨A2, c2, rfl, ha2, hb2⟩; have HA2 := hid ha2; have B2 := hid (B1.out.trans (hb2.mono B1.out.size)); have X2 := hid (X1.out.new_ hb2); have P2 := hid (P1.out.new_ hb2); have S2 := hid hb2.size; clear ha2 hb2 q0 q1))
  obtain ⟨w3, hw3⟩ : ∃ w3, w3 = w2.alloc (.cells #[.slice A2 m c2] 31) := ⟨_, rfl⟩
  have H1 := hid (show RtW W (W.heap.size + 1) w2.heap.size W.heap.size w1.heap.size (z >>> 0 - f >>> 0 + 1) (lvlS f z lv le ri 0).flatten le ri nl nr (sidL f 0).length (sidR z 0).length w3 from by
    have hs1 := S2.out
    have hs2 : W.heap.size + 2 ≤ w1.heap.size := by have := X1.out.lt; omega
    have hx2 : w3.heap.size = w2.heap.size + 1 := by rw [hw3]; simp
    have hbb : Below w2.heap.size w2 w3 := by rw [hw3]; exact (Below.refl _ _).alloc (Nat.le_refl _) _
    refine H0.out w3 w2.heap.size w1.heap.size (.slice A2 m c2) ?_ (HA2.out.kept hbb) (fun e => by have := (HA2.out.lt _ e).2; omega) (P2.out.new_ hbb) (X2.out.new_ hbb) ⟨hs2, hs1⟩ (by omega) (B2.out.trans (hbb.mono B2.out.size))
    rw [hw3]
    exact At.new w2 _ _)
  rw [← hw3]
  obtain ⟨Nb, hNb⟩ : ∃ q, q = w2.heap.size := ⟨_, rfl⟩
  obtain ⟨base, hbase⟩ : ∃ q, q = w1.heap.size := ⟨_, rfl⟩
  rw [← hNb, ← hbase] at H1
  rw [← hNb]
  clear hw3 hNb hbase H0 HCL HC P0 X0 B0 X1 P1 B1 HA2 X2 P2 S2 B2
  go_loopw [14, 47] (fun _ v wr => ∃ k : Nat, k ≤ h ∧ v = .int .i64 (k : Int) ∧ Hid (RtW W (W.heap.size + 1) Nb W.heap.size base (z >>> k - f >>> k + 1) (lvlS f z lv le ri k).flatten le ri nl nr (sidL f k).length (sidR z k).length wr)) (fun _ v _ => h - (intOf v).toNat)
  case atStart => exact ⟨0, by omega, rfl, hid H1.out⟩
  case round =>
    clear H1
    obtain ⟨k, hk, rfl, HX⟩ := hrel
    by_cases hlt : k < h
    · have hd : decide ((k : Int) < (h : Int)) = true := by simp; omega
      have hdn : decide (k < h) = true := by simp; omega
      obtain ⟨k1, hk1⟩ : ∃ m, m = k + 1 := ⟨_, rfl⟩
      have e2 : (k : Int) + 1 = (k1 : Int) := by omega
      have ew2 : IntKind.i64.wrap (k1 : Int) = (k1 : Int) := by rw [IntKind.wrap_i64] <;> have := HH.out <;> omega
      have HC := hid (HS.out k hlt wr Nb base HX.out)
      have HU1 := hid (HU.out k hlt)
      have HM := hid (show k1 ≤ h ∧ h - k1 < h - k by omega)
      rw [← hk1] at HC HU1
      obtain ⟨q, hq⟩ : ∃ q, q = z >>> k1 - f >>> k1 + 1 := ⟨_, rfl⟩
      rw [← hq] at HC HU1
      have HQ := hid hq
      clear hk1 hk hlt HX hq HS HU
      go_wp2_with (first
        | (go_at_call 75; refine HC.out.mono ?_; rintro r3 w3 ⟨rfl, h3⟩; obtain ⟨g, c3, q3, hcall⟩ := HU1.out w3 Nb base _ _ h3; have HCA := hid hcall; clear h3 hcall HC HU1)
        | (go_at_call 85; refine HCA.out.mono ?_; rintro r4 w4 ⟨A4, c4, u4, rfl, q4, f4, h4⟩; have H4 := hid h4; clear h4 HCA q3))
      exact ⟨⟨k1, HM.out.1, rfl, hid (by rw [← HQ.out]; exact H4.out)⟩, by
        show h - ((k1 : Int)).toNat < h - ((k : Int)).toNat
        rw [Int.toNat_natCast, Int.toNat_natCast]
        exact HM.out.2⟩
    · obtain rfl : k = h := by omega
      have hd : decide ((k : Int) < (k : Int)) = false := by simp
      obtain ⟨⟨g, c5, q5, hr5⟩, hx5, hb5⟩ := HR0.out wr Nb base _ _ HX.out
      have R5 := hid hr5
      have X5 := hid hx5
      have B5 := hid hb5
      clear hlt hk HS HU HX HR0 hr5 hx5 hb5
      go_wp2_with (first
        | (refine wpList_valW (by rfl) (run_loadH (.tmp 63) rfl g 0 rfl root R5.out HTL.out) ?_)
        | (refine wpList_store_row rfl _ (.tmp 8) (.tmp 64) rfl (W.heap.size + 1) (ubs root).toArray rfl rfl 25 (ubs n0).toArray X5.out (sizeH_of HTL.out) ?e5 (ubs_all _) ?e6; rotate_right))
      case e5 => simp [ubs_length, HNL.out, HTL.out]
      refine bodyPost_ret (results_row_tmp rfl _ _ (W.heap.size + 1) 25 (ubs root).toArray (0, 0) _ rfl (setRow_heap _ _ _ _ _ _ X5.out) Tryd.underlying25 rfl (sizeH_of HTL.out)) rfl ?_
      exact ⟨rfl, below_setRow B5.out (by omega) _⟩
/-- Root, for all arguments. -/
theorem proot11_any (h : Int) (f m nl nr c cE cI : Nat) (lv le ri : List UInt8) (A AE AI : Option Addr) (W : World) (hf : f < 2 ^ 64) (hcE : nl ≤ cE) (hcI : nr ≤ cI) (hlv : lv.length = 32 * m) (hle : le.length = 32 * nl) (hri : ri.length = 32 * nr) (hV : Rd W W.heap.size A (ubs lv)) (hE : Rd W W.heap.size AE (ubs le)) (hI : Rd W W.heap.size AI (ubs ri)) (hT : Tabs W) :
    Calls Tryd.prog 46 #[.int .i64 h, .int .u64 (f : Int), .slice A m c, .agg #[.slice AE nl cE, .slice AI nr cI]] W fun r W' => r = .returned (.tuple #[.agg (ubs (rootSp h f m nl nr lv le ri)).toArray, errV (ebS h f m nl nr)]) ∧ Below W.heap.size W W' := by
  unfold rootSp
  cases hg : spanB h f (m : Int) with
  | false =>
    have e : ebS h f m nl nr = 1 := by rw [ebS, hg]; rfl
    rw [e, if_neg (by decide)]
    exact proot11_no1 h f m nl nr c cE cI A AE AI W hf hg
  | true =>
    obtain ⟨k, n, e1, e2, -⟩ := spanB_parts hg
    subst e1
    rw [Int.toNat_natCast]
    by_cases h1 : nl = (sidL f k).length
    · by_cases h2 : nr = (sidR (f + m - 1) k).length
      · have e : ebS (k : Int) f m nl nr = 0 := by rw [ebS, hg, if_pos rfl, Int.toNat_natCast, if_pos h1, if_pos h2]
        rw [e, if_pos rfl]
        subst h1 h2
        exact proot11_ok k f m c cE cI lv le ri A AE AI W hg hcE hcI hlv hle hri hV hE hI hT
      · have e : ebS (k : Int) f m nl nr = 5 := by rw [ebS, hg, if_pos rfl, Int.toNat_natCast, if_pos h1, if_neg h2]
        rw [e, if_neg (by decide)]
        exact proot11_no5 k f m nl nr c cE cI A AE AI W hg (.inr ⟨h1, h2⟩)
    · have e : ebS (k : Int) f m nl nr = 5 := by rw [ebS, hg, if_pos rfl, Int.toNat_natCast, if_neg h1]
      rw [e, if_neg (by decide)]
      exact proot11_no5 k f m nl nr c cE cI A AE AI W hg (.inl h1)
end Go.Proofs.YtlmecjnlinalkaaDoor

namespace Go.Proofs.YtlmecjnlinalkaaDoor
open Go.RowKit

/-- The error's number of Check. -/
def ckS (q : List UInt8) (h : Int) (f m nl nr : Nat) (lv le ri : List UInt8) : Nat := if ebS h f m nl nr = 0 then (if rootSp h f m nl nr lv le ri = q then 0 else 5) else ebS h f m nl nr
theorem rootSp_length {h : Int} {f m nl nr : Nat} {lv le ri : List UInt8} (hlv : lv.length = 32 * m) (hle : le.length = 32 * nl) (hri : ri.length = 32 * nr) : (rootSp h f m nl nr lv le ri).length = 32 := by
  unfold rootSp
  split
  · rename_i g
    unfold ebS at g
    split at g
    · rename_i g1
      split at g
      · rename_i g2
        split at g
        · rename_i g3
          obtain ⟨k, n, e1, e2, hh, h0, h2, h3⟩ := spanB_parts g1
          obtain rfl : m = n := by omega
          subst e1
          rw [Int.toNat_natCast] at g2 g3 ⊢
          exact spanN_length (m := m) (by omega) hlv (by rw [hle, g2]) (by rw [hri, g3]) k 0 (.inr (.inr ⟨by rw [shr_all (show f < 2 ^ k by omega)]; omega, Nat.zero_le _⟩))
        · cases g
      · cases g
    · cases g
  · exact n32_length
set_option maxRecDepth 100000 in
set_option maxHeartbeats 2000000 in
theorem pcheck11_any (q : List UInt8) (hq : q.length = 32) (h : Int) (f m nl nr c cE cI : Nat) (lv le ri : List UInt8) (A AE AI : Option Addr) (W : World) (hf : f < 2 ^ 64) (hcE : nl ≤ cE) (hcI : nr ≤ cI) (hlv : lv.length = 32 * m) (hle : le.length = 32 * nl) (hri : ri.length = 32 * nr) (hV : Rd W W.heap.size A (ubs lv)) (hE : Rd W W.heap.size AE (ubs le)) (hI : Rd W W.heap.size AI (ubs ri)) (hT : Tabs W) :
    Calls Tryd.prog 49 #[.agg (ubs q).toArray, .int .i64 h, .int .u64 (f : Int), .slice A m c, .agg #[.slice AE nl cE, .slice AI nr cI]] W fun r W' => r = .returned (errV (ckS q h f m nl nr lv le ri)) ∧ Below W.heap.size W W' := by
  obtain ⟨m0, hm⟩ : ∃ m, m = n32 := ⟨_, rfl⟩
  have HAH := hid (fun (o : Oper) (a : Go.Act) (W : World) (h : o.op = .alloc 25) => run_alloc_of (o := o) (a := a) (W := W) _ h _ zeroH8)
  have HNL := hid (show m0.length = 32 by rw [hm]; exact n32_length)
  have HQL := hid hq
  rw [← hm] at HAH
  obtain ⟨O, hO⟩ : ∃ O : Array Value, O = #[.slice AE nl cE, .slice AI nr cI] := ⟨_, rfl⟩
  have HSO := hid (show (Tryd.prog.info? 74).map (·.size) = some O.size by rw [hO]; exact sizePf)
  obtain ⟨w0, hw0⟩ : ∃ w, w = (W.alloc (.cells (ubs q).toArray 25)).alloc (.cells O 74) := ⟨_, rfl⟩
  have hb0 : Below W.heap.size W w0 := by rw [hw0]; exact ((Below.refl _ _).alloc (Nat.le_refl _) _).alloc (by simp) _
  have X0 := hid (show At w0 W.heap.size (ubs q).toArray 25 by rw [hw0]; exact (At.new _ _ _).alloc _)
  have P0 := hid (show At w0 (W.heap.size + 1) O 74 by rw [hw0]; exact At.new_at (by simp))
  have B0 := hid hb0
  have HRT := hid (proot11_any h f m nl nr c cE cI lv le ri A AE AI w0 hf hcE hcI hlv hle hri ((hV.below hb0).mono hb0.size) ((hE.below hb0).mono hb0.size) ((hI.below hb0).mono hb0.size) (hT.below hb0))
  rw [← hO] at HRT ⊢
  have HRL := hid (rootSp_length (h := h) (f := f) hlv hle hri)
  have e5 : errV 5 = .iface 42 (.int .i64 5) := rfl
  have e0 : errV 0 = .nilIface := rfl
  unfold ckS
  generalize rootSp h f m nl nr lv le ri = root at HRT HRL ⊢
  generalize ebS h f m nl nr = kx at HRT ⊢
  clear hf hcE hcI hlv hle hri hV hE hI hT hm hb0 hO hq
  by_cases hk : kx = 0
  · subst hk
    rw [if_pos rfl]
    rw [e0] at HRT
    by_cases he : root = q
    · have HE := hid (show (root == q) = !false by simpa using he)
      rw [if_pos he, e0]
      clear he e5 e0
      go_enter Tryd.func49, Tryd.ntmps49
      go_wp2_with (first
        | (rw [← hw0]; clear hw0; refine wpList_load_row rfl _ (.tmp 9) rfl (W.heap.size + 1) rfl 74 O (0, 0) _ P0.out Tryd.underlying74 rfl HSO.out ?_)
        | (refine wpList_load_row rfl _ (.tmp 9) rfl (W.heap.size + 1) rfl 74 O (0, 0) _ P0.out Tryd.underlying74 rfl HSO.out ?_)
        | (go_at_call 46; refine HRT.out.mono ?_; rintro r1 w1 ⟨rfl, hb1⟩; have B1 := hid (B0.out.trans (hb1.mono B0.out.size)); have X1 := hid (X0.out.new_ hb1); clear hb1)
        | (refine Great.wpList_allocTo rfl _ rfl _ _ (HAH.out _ _ _ rfl) ?_)
        | (refine wpList_store_row rfl _ (.tmp 11) (.tmp 19) rfl w1.heap.size (ubs root).toArray rfl rfl 25 (ubs m0).toArray (At.new _ _ _) (sizeH_of HRL.out) (by simp [ubs_length, HNL.out, HRL.out]) (ubs_all _) ?_; have hb2 : Below w1.heap.size w1 ((w1.alloc (.cells (ubs m0).toArray 25)).setRow w1.heap.size (ubs root).toArray) := below_setRow ((Below.refl _ _).alloc (Nat.le_refl _) _) (Nat.le_refl _) _; have B2 := hid (B1.out.trans (hb2.mono B1.out.size)); have X2 := hid (X1.out.new_ hb2); have G2 := hid (show At ((w1.alloc (.cells (ubs m0).toArray 25)).setRow w1.heap.size (ubs root).toArray) w1.heap.size (ubs root).toArray 25 from setRow_heap _ _ _ _ _ _ (At.new _ _ _)); clear hb2; generalize ((w1.alloc (.cells (ubs m0).toArray 25)).setRow w1.heap.size (ubs root).toArray) = w2 at B2 X2 G2 ⊢; generalize w1.heap.size = G at G2 ⊢)
        | (refine wpList_valW (by rfl) (run_loadH (.tmp 11) rfl G 0 rfl root (range_whole G2.out) HRL.out) ?_)
        | (refine wpList_valW (by rfl) (run_loadH (.tmp 5) rfl W.heap.size 0 rfl q (range_whole X2.out) HQL.out) ?_)
        | (refine wpList_valW (by rfl) (run_neqH _ (.tmp 26) (.tmp 27) rfl root q HRL.out HQL.out rfl rfl _ HE.out w2) ?_))
      go_ret
      exact ⟨rfl, B2.out⟩
    · have HE := hid (show (root == q) = !true by simpa using he)
      rw [if_neg he, e5]
      clear he e5 e0
      go_enter Tryd.func49, Tryd.ntmps49
      go_wp2_with (first
        | (rw [← hw0]; clear hw0; refine wpList_load_row rfl _ (.tmp 9) rfl (W.heap.size + 1) rfl 74 O (0, 0) _ P0.out Tryd.underlying74 rfl HSO.out ?_)
        | (refine wpList_load_row rfl _ (.tmp 9) rfl (W.heap.size + 1) rfl 74 O (0, 0) _ P0.out Tryd.underlying74 rfl HSO.out ?_)
        | (go_at_call 46; refine HRT.out.mono ?_; rintro r1 w1 ⟨rfl, hb1⟩; have B1 := hid (B0.out.trans (hb1.mono B0.out.size)); have X1 := hid (X0.out.new_ hb1); clear hb1)
        | (refine Great.wpList_allocTo rfl _ rfl _ _ (HAH.out _ _ _ rfl) ?_)
        | (refine wpList_store_row rfl _ (.tmp 11) (.tmp 19) rfl w1.heap.size (ubs root).toArray rfl rfl 25 (ubs m0).toArray (At.new _ _ _) (sizeH_of HRL.out) (by simp [ubs_length, HNL.out, HRL.out]) (ubs_all _) ?_; have hb2 : Below w1.heap.size w1 ((w1.alloc (.cells (ubs m0).toArray 25)).setRow w1.heap.size (ubs root).toArray) := below_setRow ((Below.refl _ _).alloc (Nat.le_refl _) _) (Nat.le_refl _) _; have B2 := hid (B1.out.trans (hb2.mono B1.out.size)); have X2 := hid (X1.out.new_ hb2); have G2 := hid (show At ((w1.alloc (.cells (ubs m0).toArray 25)).setRow w1.heap.size (ubs root).toArray) w1.heap.size (ubs root).toArray 25 from setRow_heap _ _ _ _ _ _ (At.new _ _ _)); clear hb2; generalize ((w1.alloc (.cells (ubs m0).toArray 25)).setRow w1.heap.size (ubs root).toArray) = w2 at B2 X2 G2 ⊢; generalize w1.heap.size = G at G2 ⊢)
        | (refine wpList_valW (by rfl) (run_loadH (.tmp 11) rfl G 0 rfl root (range_whole G2.out) HRL.out) ?_)
        | (refine wpList_valW (by rfl) (run_loadH (.tmp 5) rfl W.heap.size 0 rfl q (range_whole X2.out) HQL.out) ?_)
        | (refine wpList_valW (by rfl) (run_neqH _ (.tmp 26) (.tmp 27) rfl root q HRL.out HQL.out rfl rfl _ HE.out w2) ?_))
      go_ret
      exact ⟨rfl, B2.out⟩
  · rw [if_neg hk]
    have e1 : errV kx = .iface 42 (.int .i64 (kx : Int)) := errV_pos hk
    rw [e1] at HRT ⊢
    clear hk e5 e0 e1
    go_enter Tryd.func49, Tryd.ntmps49
    go_wp2_with (first
      | (rw [← hw0]; clear hw0; refine wpList_load_row rfl _ (.tmp 9) rfl (W.heap.size + 1) rfl 74 O (0, 0) _ P0.out Tryd.underlying74 rfl HSO.out ?_)
      | (refine wpList_load_row rfl _ (.tmp 9) rfl (W.heap.size + 1) rfl 74 O (0, 0) _ P0.out Tryd.underlying74 rfl HSO.out ?_)
      | (go_at_call 46; refine HRT.out.mono ?_; rintro r1 w1 ⟨rfl, hb1⟩; have B1 := hid (B0.out.trans (hb1.mono B0.out.size)); have X1 := hid (X0.out.new_ hb1); clear hb1)
      | (refine Great.wpList_allocTo rfl _ rfl _ _ (HAH.out _ _ _ rfl) ?_)
      | (refine wpList_store_row rfl _ (.tmp 11) (.tmp 19) rfl w1.heap.size (ubs root).toArray rfl rfl 25 (ubs m0).toArray (At.new _ _ _) (sizeH_of HRL.out) (by simp [ubs_length, HNL.out, HRL.out]) (ubs_all _) ?_; have hb2 : Below w1.heap.size w1 ((w1.alloc (.cells (ubs m0).toArray 25)).setRow w1.heap.size (ubs root).toArray) := below_setRow ((Below.refl _ _).alloc (Nat.le_refl _) _) (Nat.le_refl _) _; have B2 := hid (B1.out.trans (hb2.mono B1.out.size)); have X2 := hid (X1.out.new_ hb2); have G2 := hid (show At ((w1.alloc (.cells (ubs m0).toArray 25)).setRow w1.heap.size (ubs root).toArray) w1.heap.size (ubs root).toArray 25 from setRow_heap _ _ _ _ _ _ (At.new _ _ _)); clear hb2; generalize ((w1.alloc (.cells (ubs m0).toArray 25)).setRow w1.heap.size (ubs root).toArray) = w2 at B2 X2 G2 ⊢; generalize w1.heap.size = G at G2 ⊢))
    go_ret
    exact ⟨rfl, B2.out⟩
end Go.Proofs.YtlmecjnlinalkaaDoor

namespace Go.Proofs.YtlmecjnlinalkaaDoor
open Go.RowKit

theorem rgt_span {k f m : Nat} (hg : spanB (k : Int) f (m : Int) = true) : rgtB (k : Int) (List.range' f m) = true := by
  obtain ⟨k', n', e1, e2, hh, h0, h2, h3⟩ := spanB_parts hg
  obtain rfl : k = k' := by omega
  obtain rfl : m = n' := by omega
  have hne : List.range' f m ≠ [] := fun e => by have := congrArg List.length e; simp at this; omega
  have hri : riseB (List.range' f m) = true := riseB_iff.2 List.pairwise_lt_range'
  have hfi : fitB k (List.range' f m) = true := by
    unfold fitB
    rw [List.all_eq_true]
    intro x hx
    have := List.mem_range'_1.1 hx
    exact decide_eq_true (by omega)
  unfold rgtB
  rw [Int.toNat_natCast, hri, hfi, decide_eq_true (show (0 : Int) ≤ k by omega), decide_eq_true (show (k : Int) ≤ 32 by omega), decide_eq_true hne, decide_eq_true (show (List.range' f m).length ≤ 256 by rw [List.length_range']; exact h2)]
  rfl
theorem eb_span {k f m : Nat} (hg : spanB (k : Int) f (m : Int) = true) : ebS (k : Int) f m (sidL f k).length (sidR (f + m - 1) k).length = 0 := by
  rw [ebS, hg, if_pos rfl, Int.toNat_natCast, if_pos rfl, if_pos rfl]
theorem tree_span {L : List (Nat × List UInt8)} (ho : okL L) {k f m : Nat} (hg : spanB (k : Int) f (m : Int) = true) : rootSp (k : Int) f m (sidL f k).length (sidR (f + m - 1) k).length (leavesS L (List.range' f m)) (besideS L (sidL f k)) (besideS L (sidR (f + m - 1) k)) = nodeS k 0 L := by
  obtain ⟨k', n', e1, e2, hh, h0, h2, h3⟩ := spanB_parts hg
  obtain rfl : k = k' := by omega
  obtain rfl : m = n' := by omega
  have hpw : (2 : Nat) ^ k ≤ 2 ^ 32 := Nat.pow_le_pow_right (by omega) hh
  rw [rootSp, if_pos (eb_span hg), Int.toNat_natCast]
  obtain ⟨z, hz⟩ : ∃ z, z = f + m - 1 := ⟨_, rfl⟩
  rw [← hz]
  have hfz : f ≤ z := by omega
  have hz2 : z < 2 ^ k := by omega
  have h1 := lvlS_eq (lv := leavesS L (List.range' f m)) (le := besideS L (sidL f k)) (ri := besideS L (sidR z k)) (fun k p => nodeS k p L) hfz k (fun i hi => by
      rw [leaves_part ho _ i (by rw [List.length_range']; omega)]
      rw [List.getElem_range', Nat.one_mul]) (fun j hj ho2 => by
      have hlt := sidL_lt hj ho2
      rw [beside_part ho _ _ hlt]
      have e : (sidL f k)[(sidL f j).length] = (j, f >>> j - 1) := by
        have h5 : (sidL f k).idxOf (j, f >>> j - 1) < (sidL f k).length := by rw [sidL_idx hj ho2]; exact hlt
        have h6 := List.getElem_idxOf h5
        simp only [sidL_idx hj ho2] at h6
        exact h6
      rw [e]) (fun j hj ho2 => by
      have hlt := sidR_lt hj ho2
      rw [beside_part ho _ _ hlt]
      have e : (sidR z k)[(sidR z j).length] = (j, z >>> j + 1) := by
        have h5 : (sidR z k).idxOf (j, z >>> j + 1) < (sidR z k).length := by rw [sidR_idx hj ho2]; exact hlt
        have h6 := List.getElem_idxOf h5
        simp only [sidR_idx hj ho2] at h6
        exact h6
      rw [e]) (fun j hj p hp1 hp2 => by
      refine nodeS_step j p ?_
      have : z >>> (j + 1) ≤ z := by rw [Nat.shiftRight_eq_div_pow]; exact Nat.div_le_self _ _
      generalize z >>> (j + 1) = q at *
      omega) k (Nat.le_refl _)
  rw [lvl_root _ _ _ hfz hz2, plcS_root hfz hz2, List.map_cons, List.map_nil] at h1
  exact (List.cons.inj h1).1
theorem ck_span {L : List (Nat × List UInt8)} (ho : okL L) {k f m : Nat} (hg : spanB (k : Int) f (m : Int) = true) : ckS (nodeS k 0 L) (k : Int) f m (sidL f k).length (sidR (f + m - 1) k).length (leavesS L (List.range' f m)) (besideS L (sidL f k)) (besideS L (sidR (f + m - 1) k)) = 0 := by
  rw [ckS, if_pos (eb_span hg), if_pos (tree_span ho hg)]
theorem span32 {k f m : Nat} (hg : spanB (k : Int) f (m : Int) = true) : spanB 32 f (m : Int) = true := by
  obtain ⟨k', n', e1, e2, hh, h0, h2, h3⟩ := spanB_parts hg
  obtain rfl : k = k' := by omega
  obtain rfl : m = n' := by omega
  have hpw : (2 : Nat) ^ k ≤ 2 ^ 32 := Nat.pow_le_pow_right (by omega) hh
  unfold spanB
  rw [Int.toNat_natCast, decide_eq_true (show (1 : Int) ≤ m by omega), decide_eq_true (show (m : Int) ≤ 256 by omega), decide_eq_true (show f + m ≤ 2 ^ (32 : Int).toNat by have : (32 : Int).toNat = 32 := rfl; rw [this]; omega)]
  rfl
end Go.Proofs.YtlmecjnlinalkaaDoor
