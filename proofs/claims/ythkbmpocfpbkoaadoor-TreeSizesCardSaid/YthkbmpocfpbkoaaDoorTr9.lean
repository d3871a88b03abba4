/-
  Layer 9, the document's side: Node, Root.
-/
import Derived.Test.YthkbmpocfpbkoaaDoorTq
namespace Go.Proofs.YthkbmpocfpbkoaaDoor
open Go.RowKit

/-- The leaves below a node; a node. -/
def bS (n pl : Nat) (L : List (Nat × List UInt8)) : List (Nat × List UInt8) := L.filter fun p => p.1 >>> n == pl
def nodeS (n pl : Nat) (L : List (Nat × List UInt8)) : List UInt8 := partS n pl (bS n pl L)
theorem okL.bS {L : List (Nat × List UInt8)} (h : okL L) (n pl : Nat) : okL (bS n pl L) := fun p hp => h p (List.mem_filter.1 hp).1
theorem bS_le (n pl : Nat) (L : List (Nat × List UInt8)) : (bS n pl L).length ≤ L.length := List.length_filter_le _ _
theorem bS_zero (n pl : Nat) (L : List (Nat × List UInt8)) : bS n pl (L.take 0) = [] := rfl
theorem bS_next (n pl : Nat) (L : List (Nat × List UInt8)) (j : Nat) (hj : j < L.length) : bS n pl (L.take (j + 1)) = if (L[j].1 >>> n == pl) then bS n pl (L.take j) ++ [L[j]] else bS n pl (L.take j) := by
  rw [take_next L j hj]
  unfold bS
  rw [List.filter_append]
  cases h : (L[j].1 >>> n == pl) <;> simp [h]
theorem nodeS_length (n pl : Nat) (L : List (Nat × List UInt8)) (h : okL L) : (nodeS n pl L).length = 32 := partS_length _ _ _ (h.bS n pl)
attribute [irreducible] bS
set_option maxRecDepth 100000 in
set_option maxHeartbeats 2000000 in
theorem nodeR_any (n : Nat) (hn : n ≤ 32) (pl : Nat) (hpl : pl < 18446744073709551616) (L : List (Nat × List UInt8)) (h : Int) (E A : Option Addr) (cE c : Nat) (w : World) (ho : okL L) (hlen : L.length ≤ 1000) (hv : Lv w w.heap.size A L) (he : Ev w w.heap.size E) (hT : Tabr w) (hI : Tab w 1 IV.l) :
    Calls Tryd.prog 21 #[.agg #[.int .i64 h, .slice A L.length c, .slice E 33 cE], .int .i64 (n : Int), .int .u64 (pl : Int)] w fun r w' => r = .returned (.agg (ubs (nodeS n pl L)).toArray) ∧ Below w.heap.size w w' := by
  have HPC := hid (fun (W : World) (A1 : Option Addr) (c1 : Nat) (b : Below w.heap.size w W) (v : Lv W W.heap.size A1 (bS n pl L)) (e : Ev W W.heap.size E) => partR_any n hn w hT hI pl (bS n pl L) h A E A1 L.length c cE c1 W b hpl (ho.bS n pl) (Nat.le_trans (bS_le n pl L) hlen) v e)
  obtain ⟨T, hT'⟩ : ∃ T : Array Value, T = #[.int .i64 h, .slice A L.length c, .slice E 33 cE] := ⟨_, rfl⟩
  have H0 := hid (PtW.start w T)
  have HQ := hid (fun (W : World) (hA : At W w.heap.size T 28) => show W.cell? ⟨w.heap.size, 1, none⟩ = some (.slice A L.length c) by rw [hA.cell, hT']; rfl)
  have HV := hid (fun (W : World) (b : Below w.heap.size w W) => hv.below b)
  have HE := hid (fun (W : World) (b : Below w.heap.size w W) => show Ev W W.heap.size E from (Rd.below he b).mono b.size)
  have HO := hid ho
  have HLEN := hid hlen
  have HSZ := hid (show (Tryd.prog.info? 28).map (·.size) = some T.size by rw [sizeTr, hT']; rfl)
  have HR := hid (show (partS n pl (bS n pl L)).length = 32 from nodeS_length n pl L ho)
  unfold nodeS
  generalize partS n pl (bS n pl L) = hr at HPC HR ⊢
  rw [← hT'] at HPC ⊢
  obtain ⟨len, hlen'⟩ : ∃ m, m = L.length := ⟨_, rfl⟩
  rw [← hlen'] at HQ
  have HN := hid hlen'
  have un : IntKind.u64.wrap (n : Int) = (n : Int) := by simp [IntKind.wrap, IntKind.signed, IntKind.bits]; omega
  have HK := hid (show n ≤ 64 by omega)
  have hz := noughts32
  clear hn hpl ho hlen hv he hT hI hT' hlen'
  go_enter Tryd.func21, Tryd.ntmps21
  go_wp2
  clear hz
  go_loopw [7, 8] (fun v7 v8 wr => ∃ (j : Nat) (A1 : Option Addr) (c1 : Nat), j ≤ len ∧ v8 = .int .i64 (j : Int) ∧ v7 = .slice A1 (bS n pl (L.take j)).length c1 ∧ PtW w T (.slice A1 (bS n pl (L.take j)).length c1) (.slice none 0 0) (bS n pl (L.take j)) [] wr) (fun _ v8 _ => len - (intOf v8).toNat)
  case atStart =>
    refine ⟨0, none, 0, by omega, rfl, ?_, ?_⟩
    · rw [bS_zero]; rfl
    · rw [bS_zero]; exact H0.out
  case round =>
    clear H0
    obtain ⟨j, A1, c1, hjle, rfl, rfl, hW⟩ := hrel
    have HW := hid hW
    clear hW
    have q1 := HQ.out _ HW.out.t
    by_cases hlt : j < len
    · have hjl : j < L.length := by rw [← HN.out]; exact hlt
      have e1 : decide ((j : Int) < (len : Int)) = true := by simp; omega
      have e1' : decide (j < len) = true := by simp; omega
      have e2 : (j : Int) < (len : Int) := by omega
      obtain ⟨g, o, rfl, hg, hr0⟩ := (HV.out wr HW.out.below).leaf HO.out hjl
      have HP := hid (HO.out.get hjl)
      have hA := bS_next n pl L j hjl
      obtain ⟨p, hp⟩ : ∃ p, p = L[j] := ⟨_, rfl⟩
      rw [← hp] at hr0 HP hA
      obtain ⟨x, hx⟩ : ∃ x, x = o + 33 * j := ⟨_, rfl⟩
      rw [← hx] at hr0
      have ex : o + j * 33 = x := by omega
      have HX := hid hr0
      have q0 := leaf_index hr0
      have hs := shr_u64 33 p.1 n .u64 HK.out
      obtain ⟨s, hs'⟩ : ∃ s, s = p.1 >>> n := ⟨_, rfl⟩
      rw [← hs'] at hs hA
      have wj : IntKind.i64.wrap ((j : Int) + 1) = ((j + 1 : Nat) : Int) := by have := HLEN.out; have := HN.out; simp [IntKind.wrap, IntKind.signed, IntKind.bits]; omega
      have HJ1 := hid (show j + 1 ≤ len by omega)
      have LL := hid (show (bS n pl (L.take j)).length ≤ 1000 from Nat.le_trans (bS_le _ _ _) (Nat.le_trans (by rw [List.length_take]; omega) HLEN.out))
      have HA := hid hA
      obtain ⟨LA, hLA⟩ : ∃ l, l = bS n pl (L.take j) := ⟨_, rfl⟩
      rw [← hLA] at HA HW LL ⊢
      obtain ⟨nA, hnA⟩ : ∃ m, m = LA.length := ⟨_, rfl⟩
      rw [← hnA] at HW ⊢
      have NA := hid hnA
      clear hjl hg hr0 hp hx hA hs' hlt hLA hnA hjle
      by_cases hc : s = pl
      · have f0 : decide ((s : Int) = (pl : Int)) = true := by simp; omega
        have f0b : ((s : Int) == (pl : Int)) = true := by simp; omega
        have f0n : decide (s = pl) = true := by simp; omega
        have HA2 := hid (show bS n pl (L.take (j + 1)) = LA ++ [p] by rw [HA.out, if_pos (by simpa using hc)])
        clear HA hc
        go_wp2_with (first
          | (refine wpList_valW (by rfl) (run_loadLf (.tmp 31) rfl g x rfl p HX.out HP.out.2) ?_)
          | (refine wpList_valW (by rfl) (run_buildLf (.tmp 32) rfl p HP.out.2 rfl) ?_)
          | (refine wpList_append_lf (by rfl) (.tmp 27) (.tmp 33) rfl (w.heap.size + 2) (.slice A1 nA c1) LA rfl (HW.out.a.kept ((Below.refl _ _).alloc (Nat.le_refl _) _)) wr.heap.size p rfl (At.new _ _ _) HP.out.2 LL.out (by have := HW.out.big; simp; omega) ?_; intro A3 c3 w3 h1 h2 h3; have HW3 := hid (HW.out.pushA h1 h2 h3); clear h1 h2 h3))
        exact ⟨⟨j + 1, A3, c3, HJ1.out, by go_num, by rw [HA2.out, List.length_append]; rfl, by rw [HA2.out]; exact HW3.out⟩, by have := HJ1.out; simp [intOf]; omega⟩
      · have f0 : decide ((s : Int) = (pl : Int)) = false := by simp; omega
        have f0b : ((s : Int) == (pl : Int)) = false := by simp; omega
        have f0n : decide (s = pl) = false := by simp; omega
        have HA2 := hid (show bS n pl (L.take (j + 1)) = LA by rw [HA.out, if_neg (by simpa using hc)])
        clear HA hc
        go_wp2
        exact ⟨⟨j + 1, A1, c1, HJ1.out, by go_num, by rw [HA2.out, NA.out], by rw [HA2.out, ← NA.out]; exact HW.out⟩, by have := HJ1.out; simp [intOf]; omega⟩
    · obtain rfl : j = len := by omega
      have e1 : decide ((j : Int) < (j : Int)) = false := by simp
      have hall : L.take j = L := by rw [HN.out, List.take_length]
      rw [hall] at HW ⊢
      go_wp2_with (first
        | (refine wpList_valW (by rfl) (run_loadTr (.tmp 3) rfl w.heap.size rfl T HW.out.t HSZ.out) ?_)
        | (go_at_call 63; refine (HPC.out wr A1 c1 HW.out.below HW.out.a.lv (HE.out wr HW.out.below)).mono ?_; rintro r5 w5 ⟨rfl, hb5⟩; have HW5 := hid (HW.out.new hb5); clear hb5)
        | (refine wpList_store_row rfl _ (.tmp 6) (.tmp 39) rfl (w.heap.size + 1) (ubs hr).toArray rfl rfl 35 (ubs n32).toArray HW5.out.r (sizeH_of HR.out) ?e5 (ubs_all _) ?e6; rotate_right))
      case e5 => simp [ubs_length, n32_length, HR.out]
      refine bodyPost_ret (results_cell_row rfl _ _ (w.heap.size + 1) 35 (ubs hr).toArray (0, 0) _ rfl (setRow_heap _ _ (ubs n32).toArray _ _ _ HW5.out.r) Tryd.underlying35 rfl (sizeH_of HR.out)) rfl ?_
      exact ⟨rfl, below_setRow HW5.out.below (by omega) _⟩
end Go.Proofs.YthkbmpocfpbkoaaDoor
