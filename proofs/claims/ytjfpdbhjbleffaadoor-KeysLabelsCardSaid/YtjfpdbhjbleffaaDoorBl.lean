/-
  The blocks of a text, one by one: the iterator's contract.
-/
import Derived.Test.YtjfpdbhjbleffaaDoorFi
namespace Go.Proofs.YtjfpdbhjbleffaaDoor
open Go.RowKit

attribute [local go_sem] Oper.semAt_some

/-- Block number k of a padded text. -/
def chunk (p : List UInt8) (k : Nat) : List UInt8 := (p.drop (64 * k)).take 64
theorem chunk_length {p : List UInt8} {q k : Nat} (hq : p.length = 64 * q) (hk : k < q) : (chunk p k).length = 64 := by
  unfold chunk
  rw [List.length_take, List.length_drop, hq]
  omega
theorem chunk_get {p : List UInt8} {k j : Nat} {v : Value} (h : (ubs (chunk p k))[j]? = some v) : (ubs p)[64 * k + j]? = some v := by
  unfold chunk at h
  rw [ubs_get, List.getElem?_take] at h
  split at h
  · rw [List.getElem?_drop] at h
    rw [ubs_get]
    exact h
  · cases h
attribute [irreducible] chunk
/-- How long a slice is. -/
def lenS : Value → Nat
  | .slice _ m _ => m
  | _ => 0
theorem lenS_slice (A : Option Addr) (m c : Nat) : lenS (.slice A m c) = m := rfl
/-- A block as it is handed to the body. -/
def encB (p : List UInt8) (q : Nat) (x : Fin q) : Array Value := #[.agg (ubs (chunk p x.val)).toArray]

set_option maxRecDepth 100000 in
set_option maxHeartbeats 4000000 in
theorem blocks1_in (n l Bn C q : Nat) (bs : List UInt8) (A : Option Addr) (c : Nat) (hq : (padL bs).length = 64 * q) (hlen : bs.length ≤ 140737488351232) (J Jx : List (Fin q) → World → Prop) (W : World)
    (hJ : AbidesFrom W.heap.size J)
    (hY : ∀ pre x W1, J pre W1 → pre.length < q → YieldAt Fence.wide (n - 1) Tryd.prog l (encB (padL bs) q x) W1 fun e W' =>
      (e = .returned (.bool true) ∧ J (pre ++ [x]) W' ∧ KeepsBut C W1 W') ∨ (e = .returned (.bool false) ∧ Jx (pre ++ [x]) W'))
    (hBn : W.cell? ⟨Bn, 0, none⟩ = some (.slice A bs.length c)) (hr : Rb W W.heap.size A bs) (hC : C < W.heap.size) (h0 : J [] W) :
    CallsIn Fence.wide n Tryd.prog 42 #[.func (.yield l) #[] #[], .pointer (some ⟨Bn, 0, none⟩)] W fun e W' => (∃ v, e = .returned v) ∧
      ((∃ xs : List (Fin q), xs.map Fin.val = List.range q ∧ J xs W') ∨ (∃ pre : List (Fin q), True ∧ Jx pre W')) := by
  obtain ⟨p, hp⟩ : ∃ p, p = padL bs := ⟨_, rfl⟩
  rw [← hp] at hY hq
  have HR := hid hr
  have HJ := hid hJ
  have HY := hid hY
  have H0 := hid h0
  have HP := hid hp
  have HQ := hid hq
  have hq0 : 64 * q ≤ 140737488351400 := by have := padL_length bs; rw [← hp] at this; omega
  clear hr hJ hY h0 hp hq
  refine callsIn_of_wp Tryd.func42 rfl trivial ?_ rfl
  simp only [Tryd.ntmps42, List.size_toArray, List.length_cons, List.length_nil, Nat.reduceAdd, Nat.reduceSub, Array.replicate_succ, Array.replicate_zero, List.push_toArray, List.append_toArray, List.nil_append, List.cons_append]
  gi_wp2_with (refine ⟨trivial, (fun h => by cases h), ?_⟩; gi_at_call 43; refine (callsIn_wide.2 (pad_any bs A c W HR.out hlen)).mono ?_; rintro e W1 ⟨g, m, rfl, hm, hA, hg, hb⟩; have HM := hid hm; have HA := hid hA; have HB := hid hb; clear hm hA hb)
  have hgC : g ≠ C := by omega
  have hJ1 : J [] W1 := HJ.out _ _ _ none H0.out (grown_of_below HB.out) (fun r e => by cases e)
  have HJ1 := hid hJ1
  have HA1 := hid (show At W1 g (ubs p).toArray 5 by have := HA.out; rw [← HP.out] at this; exact this)
  have hm64 : m = 64 * q := by rw [HM.out, ← HP.out, HQ.out]
  clear hJ1 HJ H0 HA HB HR hBn HM
  subst hm64
  gi_loopw [3] (fun v wr => ∃ (k m' : Nat) (pre : List (Fin q)) (Ak : Option Addr), v = .slice Ak m' m' ∧ Hid (m' = 64 * (q - k)) ∧ k ≤ q ∧ Hid (k < q → Ak = some ⟨g, 64 * k, none⟩) ∧ Hid (pre.map Fin.val = List.range k) ∧ Hid (J pre wr) ∧ At wr g (ubs p).toArray 5)
    (fun v _ => lenS v)
  case atStart => exact ⟨0, 64 * q, [], some ⟨g, 0, none⟩, rfl, by show 64 * q = _; omega, by omega, fun _ => rfl, rfl, HJ1.out, HA1.out⟩
  case round =>
    clear HJ1 HA1
    obtain ⟨k, m', pre, Ak, rfl, HM, hk, HK, HPre, HJ, hA⟩ := hrel
    have HA := hid hA
    clear hA
    have hlenp : pre.length = k := by have := congrArg List.length HPre.out; simpa using this
    by_cases hlt : k < q
    · obtain rfl := HK.out hlt
      have hm1 : 64 ≤ m' := by have := HM.out; omega
      have hm2 : m' ≤ 140737488351400 := by have := HM.out; omega
      obtain ⟨fn, tmps, assign, body, hy, hR⟩ := HY.out pre ⟨k, hlt⟩ wr HJ.out (by omega)
      simp only [encB] at hy
      have HCH := hid (show (ubs (chunk p k)).length = 64 by rw [ubs_length, chunk_length HQ.out hlt])
      clear hlenp HK
      gi_wp2_with (first
        | (refine wpListIn_arrayAt rfl _ (.tmp 12) rfl (some ⟨g, 64 * k, none⟩) m' m' 64 _ rfl Tryd.underlying67 hm1 ?_)
        | (refine wpListIn_load_piece rfl _ (.tmp 13) rfl g (64 * k) rfl (ubs (chunk p k)) _ (fun j v hj => (HA.out.cell (64 * k + j)).trans (by rw [List.getElem?_toArray]; exact chunk_get hj)) Tryd.underlying67 rfl (by rw [sizeB64, HCH.out]) ?_))
      refine ⟨(fun h => by cases h), hR.mono ?_⟩
      clear hR hy
      rintro e W3 (⟨rfl, hJ3, hK3⟩ | ⟨rfl, hx3⟩)
      · have HJ3 := hid hJ3
        have HA3 := hid (hK3.at_ HA.out hgC)
        have HP3 := hid (show (pre ++ [(⟨k, hlt⟩ : Fin q)]).map Fin.val = List.range (k + 1) by rw [List.map_append, HPre.out, List.range_succ]; rfl)
        clear hJ3 hK3
        by_cases hm : m' = 64
        · subst hm
          have hkq : k + 1 = q := by have := HM.out; omega
          have HKQ := hid hkq
          clear hkq
          gi_wp2
          go_roundw
          case rel =>
            refine ⟨k + 1, 0, pre ++ [⟨k, hlt⟩], _, rfl, ?_, by omega, ?_, HP3, HJ3, HA3.out⟩
            · show 0 = 64 * (q - (k + 1)); have := HKQ.out; omega
            · intro h; have := HKQ.out; omega
          case measure => simp [lenS_slice]
        · have hm3 : 64 < m' := by omega
          gi_wp2
          go_roundw
          case rel =>
            refine ⟨k + 1, m' - 64, pre ++ [⟨k, hlt⟩], _, rfl, ?_, by omega, ?_, HP3, HJ3, HA3.out⟩
            · show m' - 64 = 64 * (q - (k + 1)); have := HM.out; omega
            · intro h; rw [show 64 * (k + 1) = 64 * k + 64 by omega]
          case measure => simp [lenS_slice]; omega
      · gi_wp2
        refine bodyPost_ret (results_none rfl _ _ _) rfl ?_
        exact ⟨⟨_, rfl⟩, .inr ⟨_, trivial, hx3⟩⟩
    · obtain rfl : k = q := by omega
      have hm0 : m' = 0 := by have := HM.out; omega
      subst hm0
      clear HK HY
      gi_wp2
      go_end0
      exact ⟨⟨_, rfl⟩, .inl ⟨pre, HPre.out, HJ.out⟩⟩
/-- The iterator, as the law for the loop wants it. -/
theorem blocks_stops (n Bn C q : Nat) (bs : List UInt8) (A : Option Addr) (c : Nat) (hq : (padL bs).length = 64 * q) (hlen : bs.length ≤ 140737488351232) (w : World) (hBn : Bn < w.heap.size) (hc : w.cell? ⟨Bn, 0, none⟩ = some (.slice A bs.length c)) (hr : Rb w w.heap.size A bs) (hC : C < w.heap.size) :
    SeqStopsK Fence.wide n Tryd.prog 42 #[.pointer (some ⟨Bn, 0, none⟩)] (encB (padL bs) q) (KeepsBut C) (fun xs => xs.map Fin.val = List.range q) (fun _ => True) q w := fun l J Jx W hW hJ _ hY h0 =>
  blocks1_in n l Bn C q bs A c hq hlen J Jx W hJ hY ((hW.cell (p := ⟨Bn, 0, none⟩) hBn).trans hc) ((hr.below hW).mono hW.size) (by have := hW.size; omega) h0
end Go.Proofs.YtjfpdbhjbleffaaDoor
