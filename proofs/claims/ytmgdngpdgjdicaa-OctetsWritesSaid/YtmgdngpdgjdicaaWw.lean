/-
  What any writer has behind any calls: the statement's walk.
-/
import Derived.Test.YtmgdngpdgjdicaaWl
import Derived.Test.YtmgdngpdgjdicaaReg
import Derived.Test.YtmgdngpdgjdicaaBr
import Derived.BigQuiet
import Derived.Deep.Cut
namespace Go.Proofs.Ytmgdngpdgjdicaa
open Go.RowKit

/-- What the loads of a round's region read, till the document's box is filled. -/
def SL (x q : Nat) (a : Act) (A : Option Addr) (n c k : Nat) (W : World) : Prop :=
  W.cell? ⟨x, 0, none⟩ = some (.int .i64 a.kind) ∧ W.cell? ⟨x, 1, none⟩ = some (.int .i64 a.size) ∧ W.cell? ⟨x, 2, none⟩ = some (.int .u64 a.n) ∧ W.cell? ⟨x, 3, none⟩ = some (.slice a.A a.bs.length a.c) ∧
    W.cell? ⟨q, 0, none⟩ = some (.slice A n c) ∧ W.cell? ⟨q, 1, none⟩ = some (.int .i64 k)
theorem SL.of {x q : Nat} {a : Act} {A : Option Addr} {n c k : Nat} {W : World} (hx : At W x a.cells.toArray 37) (hq : At W q #[.slice A n c, .int .i64 k] 34) : SL x q a A n c k W :=
  ⟨hx.cell 0, hx.cell 1, hx.cell 2, hx.cell 3, hq.cell 0, hq.cell 1⟩

set_option maxHeartbeats 40000000 in
set_option maxRecDepth 100000 in
theorem writes_walk (acts : List Act) (S : Option Addr) (c : Nat) (w : World) (h : Script w w.heap.size S acts) (hl : acts.length ≤ 9223372036854775807) :
    Calls Try.prog 3 #[.slice S acts.length c] w fun e w' => e = .returned (.bool true) ∧ Below w.heap.size w w' := by
  have H := hid h
  clear h
  go_enter Try.func3, Try.ntmps3
  go_wp2_with (first
    | (go_at_call 7; refine (alive_any _).mono ?_; rintro e w1 ⟨rfl, h1⟩; replace h1 := hid h1)
    | (go_at_call 8; refine (long_any acts S c w1 ((H.out.below h1.out).mono h1.out.size) hl).mono ?_; rintro e w2 ⟨x, rfl, b, rfl, h2⟩; replace h2 := hid h2; cases b))
  rotate_left
  · go_ret
    exact ⟨rfl, h1.out.trans (h2.out.2.mono h1.out.size)⟩
  obtain ⟨hlen, htot⟩ := h2.out.1 (by trivial)
  have hs2 : w.heap.size ≤ w2.heap.size := Nat.le_trans h1.out.size h2.out.2.size
  obtain ⟨W0, hW0⟩ : ∃ W0, W0 = (w2.alloc (.cells #[.nilIface, .slice none 0 0] 32)).alloc (.cells #[.slice none 0 0, .int .i64 0] 34) := ⟨_, rfl⟩
  have hb0 : Below w.heap.size w W0 := by rw [hW0]; exact ((h1.out.trans (h2.out.2.mono h1.out.size)).alloc hs2 _).alloc (by simp; omega) _
  have hw0 : WR W0 w.heap.size w2.heap.size (w2.heap.size + 1) [] 0 (.slice none 0 0) [] none 0 [] := by
    rw [hW0]
    exact ⟨⟨(At.new _ _ _).alloc _, World.ownsRow_nil _ _ _ _, hs2⟩, heap_alloc2_new _ _ _, Rd.nil _ _ _, fun _ _ e => (by cases e), fun _ => rfl, fun _ => rfl, by simp, by omega⟩
  have HB0 := hid hb0
  have HW0 := hid (⟨_, _, _, _, _, _, hw0⟩ : ∃ k v bs A c ms, WR W0 w.heap.size w2.heap.size (w2.heap.size + 1) [] k v bs A c ms)
  have HL := hid hlen
  have HT := hid htot
  clear hb0 hw0 hlen htot hs2
  subst hW0
  go_loopw [5, 23] (fun x i wr => ∃ (j : Nat), j ≤ acts.length ∧ i = .int .i64 j ∧ x = .pointer none ∧ Hid (∃ k v bs A c ms, WR wr w.heap.size w2.heap.size (w2.heap.size + 1) (acts.take j) k v bs A c ms) ∧ Hid (Below w.heap.size w wr)) (fun _ i _ => acts.length - (intOf i).toNat)
  case atStart => exact ⟨0, Nat.zero_le _, rfl, rfl, HW0, HB0⟩
  case round =>
    obtain ⟨j, hj, rfl, rfl, HW, HB⟩ := hrel
    obtain ⟨km, vm, bm, Am, cm, mm, hwr⟩ := HW.out
    clear HW
    have HWR := hid hwr
    clear hwr
    by_cases hlt : j < acts.length
    · obtain ⟨b, o, rfl, hbl, c0, c1, c2, c3⟩ := (H.out.below HB.out).at_ hlt
      obtain ⟨a, ha⟩ : ∃ a, a = acts[j] := ⟨_, rfl⟩
      have hsn := hid (take_snoc acts j hlt)
      have he := H.out.each acts[j] (List.getElem_mem hlt)
      rw [← ha] at c0 c1 c2 c3 hsn he
      have HE := hid he
      have HA := hid ha
      clear he ha
      have hue := a.u_eq
      have hta := total_take acts (j + 1)
      have hta2 := total_take acts j
      rw [hsn.out, total_snoc] at hta
      have hba : a.bs.length ≤ 200000 := by have := HT.out; omega
      have hjl : (acts.take j).length ≤ 41 := by have := HL.out; simp; omega
      have hjt : total (acts.take j) ≤ 200000 := by have := HT.out; omega
      have HJ := hid (And.intro hjl hjt)
      clear hta hta2 hjl hjt
      obtain ⟨Wd, hWd⟩ : ∃ Wd, Wd = (wr.alloc (.cells a.cells.toArray 37)).drew := ⟨_, rfl⟩
      have hfd : Fr (fun _ => False) wr Wd := by rw [hWd]; exact ((Fr.refl _ _).alloc _).drew
      have W1 := hid (HWR.out.new_ hfd)
      have R1 : Hid (Rb Wd w.heap.size a.A a.bs) := hid ((HE.out.1.below HB.out).fr hfd (fun _ _ _ => id))
      have T1 : Hid (At Wd wr.heap.size a.cells.toArray 37) := hid (by rw [hWd]; exact At.new _ _ _)
      have hbw : w.heap.size ≤ Wd.heap.size := Nat.le_trans HB.out.size hfd.size
      have BW := hid hbw
      have HFD := hid hfd
      have q0l := HWR.out.box.lt
      have p0l := HWR.out.wi.at_.lt
      have v0l : ∀ g, vm.ownBlock = some g → g < wr.heap.size := fun g hg => (World.ownsRow.lt HWR.out.wi.own g hg).2
      have QL := hid q0l
      have PL := hid p0l
      have VL := hid v0l
      clear hbw hfd q0l p0l v0l
      unfold Act.cells at T1
      have hpe := neq_self ⟨w2.heap.size, 0, none⟩
      have hr : a.u % 6 = 0 ∨ a.u % 6 = 1 ∨ a.u % 6 = 2 ∨ a.u % 6 = 3 ∨ a.u % 6 = 4 ∨ a.u % 6 = 5 := by omega
      rcases hr with hr | hr | hr | hr | hr | hr
      · have q0 : ((a.u : Int) % 6 == 0) = true := by simp; omega
        obtain ⟨k', bs', ms', P1, P2, hb, hg, hml⟩ := pair_num (a := a) HWR.out HJ.out.1 HJ.out.2 HE.out.2.2.2.1
        have HP1 := hid (P1 Wd W1.out BW.out R1.out)
        unfold wv at P2
        have HP2 := hid P2
        have HM := hid (And.intro hb (And.intro hg hml))
        have HN := hid (num_none a.n HE.out.2.2.2.1 a.size)
        clear hr P1 P2 hb hg hml
        subst hWd
        unfold Act.cells at HP1
        go_wp2
        have hS : Hid (SL wr.heap.size (w2.heap.size + 1) a Am mm.length cm km _) := hid (SL.of T1.out W1.out.box)
        refine wp_region_upto (SL wr.heap.size (w2.heap.size + 1) a Am mm.length cm km) 13 14 (by kernel_rfl) (by kernel_rfl) ?_
        refine wpUpto_take (i := 0) (v := ?_) rfl (by kernel_rfl) (by kernel_rfl) (by kernel_rfl) (by kernel_rfl) (by decide) (fun _ _ _ h => h) (Or.inl ⟨by rfl, ?_⟩) hS.out ?_
        rotate_left
        · (intro W hSW; obtain ⟨s0, s1, s2, s3, s4, s5⟩ := hSW; go_simp; rfl)
        refine wpUpto_take (i := 1) (v := ?_) rfl (by kernel_rfl) (by kernel_rfl) (by kernel_rfl) (by kernel_rfl) (by decide) (fun _ _ _ h => h) (Or.inl ⟨by rfl, ?_⟩) hS.out ?_
        rotate_left
        · (intro W hSW; obtain ⟨s0, s1, s2, s3, s4, s5⟩ := hSW; go_simp; rfl)
        refine wpUpto_take (i := 2) (v := ?_) rfl (by kernel_rfl) (by kernel_rfl) (by kernel_rfl) (by kernel_rfl) (by decide) (fun _ _ _ h => h) (Or.inl ⟨by rfl, ?_⟩) hS.out ?_
        rotate_left
        · (intro W hSW; obtain ⟨s0, s1, s2, s3, s4, s5⟩ := hSW; go_simp; rfl)
        refine wpUpto_take (i := 3) (v := ?_) rfl (by kernel_rfl) (by kernel_rfl) (by kernel_rfl) (by kernel_rfl) (by decide) (fun _ _ _ h => h) (Or.inl ⟨by rfl, ?_⟩) hS.out ?_
        rotate_left
        · (intro W hSW; obtain ⟨s0, s1, s2, s3, s4, s5⟩ := hSW; go_simp; rfl)
        refine wpUpto_take (i := 4) (v := ?_) rfl (by kernel_rfl) (by kernel_rfl) (by kernel_rfl) (by kernel_rfl) (by decide) (fun _ _ _ h => h) (Or.inl ⟨by rfl, ?_⟩) hS.out ?_
        rotate_left
        · (intro W hSW; obtain ⟨s0, s1, s2, s3, s4, s5⟩ := hSW; go_simp; rfl)
        refine wpUpto_take (i := 6) (v := ?_) rfl (by kernel_rfl) (by kernel_rfl) (by kernel_rfl) (by kernel_rfl) (by decide) (fun _ _ _ h => h) (Or.inl ⟨by rfl, ?_⟩) hS.out ?_
        rotate_left
        · (intro W hSW; obtain ⟨s0, s1, s2, s3, s4, s5⟩ := hSW; go_simp; rfl)
        refine wpUpto_take (i := 7) (v := ?_) rfl (by kernel_rfl) (by kernel_rfl) (by kernel_rfl) (by kernel_rfl) (by decide) (fun _ _ _ h => h) (Or.inl ⟨by rfl, ?_⟩) hS.out ?_
        rotate_left
        · (intro W hSW; obtain ⟨s0, s1, s2, s3, s4, s5⟩ := hSW; go_simp; rfl)
        refine wpUpto_take (i := 8) (v := ?_) rfl (by kernel_rfl) (by kernel_rfl) (by kernel_rfl) (by kernel_rfl) (by decide) (fun _ _ _ h => h) (Or.inl ⟨by rfl, ?_⟩) hS.out ?_
        rotate_left
        · (intro W hSW; obtain ⟨s0, s1, s2, s3, s4, s5⟩ := hSW; go_simp; rfl)
        refine wpUpto_take (i := 9) (v := ?_) rfl (by kernel_rfl) (by kernel_rfl) (by kernel_rfl) (by kernel_rfl) (by decide) (fun _ _ _ h => h) (Or.inl ⟨by rfl, ?_⟩) hS.out ?_
        rotate_left
        · (intro W hSW; obtain ⟨s0, s1, s2, s3, s4, s5⟩ := hSW; go_simp; rfl)
        refine wpUpto_take (i := 10) (v := ?_) rfl (by kernel_rfl) (by kernel_rfl) (by kernel_rfl) (by kernel_rfl) (by decide) (fun _ _ _ h => h) (Or.inl ⟨by rfl, ?_⟩) hS.out ?_
        rotate_left
        · (intro W hSW; obtain ⟨s0, s1, s2, s3, s4, s5⟩ := hSW; go_simp; rfl)
        simp only [Act.put, List.setIfInBounds_toArray]
        refine wpUpto_one (i := 5) rfl (by kernel_rfl) rfl ?_
        intro K hK
        go_simp
        go_at_call 9
        refine HP1.out.mono ?_
        rintro e w5 ⟨x, rfl, rfl, v5, h5i, h5f, h5o⟩
        have M5 := hid (W1.out.mid h5f T1.out R1.out BW.out)
        have hS5 := hid (SL.of M5.out.1 M5.out.2.1)
        replace h5i := hid h5i; replace h5f := hid h5f; replace h5o := hid h5o
        refine hK.out _ _ (fun _ => hS5.out) ?_
        clear hK K
        refine wpUpto_one (i := 11) rfl (by kernel_rfl) rfl ?_
        intro K hK
        go_simp
        go_at_call 10
        refine (HP2.out w5 M5.out.2.2.1 M5.out.2.2.2.1 M5.out.2.2.2.2).mono ?_
        rintro e w6 ⟨y, rfl, h6⟩
        obtain ⟨A2, c2, rfl, hq6, v6, hw6, hf6, hb6, ht6, ht7⟩ := W1.out.both (a := a) h5i.out h5f.out h5o.out h6 HM.out.1 HM.out.2.1 HM.out.2.2 M5.out.1
        have hS6 := hid (SL.of ht6 hq6)
        have b60 := hq6.cell 0
        have b61 := hq6.cell 1
        have g60 := hq6.frozen 0
        have g61 := hq6.frozen 1
        simp at b60 b61
        replace hw6 := hid hw6; replace hf6 := hid hf6; replace ht7 := hid ht7
        clear hq6 h6 ht6 hb6
        refine hK.out _ _ (fun _ => hS6.out) ?_
        clear hK K
        refine wpUpto_take (i := 12) (v := ?_) rfl (by kernel_rfl) (by kernel_rfl) (by kernel_rfl) (by kernel_rfl) (by decide) (fun _ _ _ h => h) (Or.inl ⟨by rfl, ?_⟩) hS6.out ?_
        rotate_left
        · (intro W hSW; go_simp; rfl)
        refine wpUpto_one (i := 13) rfl (by kernel_rfl) rfl ?_
        intro K hK
        go_simp
        refine hK.out _ _ (fun h => absurd rfl h) ?_
        clear hK K
        refine wpUpto_done (by kernel_rfl) ?_ _
        obtain ⟨W7, hW7⟩ : ∃ W7, W7 = (w6.setCell ⟨w2.heap.size + 1, 0, none⟩ (.slice A2 ms'.length c2)).setCell ⟨w2.heap.size + 1, 1, none⟩ (.int .i64 k') := ⟨_, rfl⟩
        rw [← hW7] at hw6 hf6 ht7 ⊢
        clear hW7 b60 b61 g60 g61
        have t71 := ht7.out.cell 1
        have t72 := ht7.out.cell 2
        have t73 := ht7.out.cell 3
        simp at t71 t72 t73
        go_wp2_with (go_at_call 9; refine (HN.out _).mono ?_; rintro e w8 ⟨rfl, h8⟩; replace h8 := hid h8)
        go_roundw
        case rel => exact ⟨j + 1, by omega, by go_num, rfl, hid (hsn.out ▸ ⟨_, _, _, _, _, _, hw6.out.new_ (Fr.of_new h8.out)⟩), ((HB.out.trans (HFD.out.below (fun _ h => h.elim) HB.out.size)).trans (hf6.out.below (fun _ h => h) BW.out)).trans (h8.out.mono (Nat.le_trans BW.out hf6.out.size))⟩
        case measure => simp [intOf]; omega
      · have q0 : ((a.u : Int) % 6 == 0) = false := by simp; omega
        have q1 : ((a.u : Int) % 6 == 1) = true := by simp; omega
        obtain ⟨k', bs', ms', P1, P2, hb, hg, hml⟩ := pair_bytes (a := a) HWR.out HJ.out.1 HJ.out.2
        have HP1 := hid (P1 Wd W1.out BW.out R1.out)
        unfold wv at P2
        have HP2 := hid P2
        have HM := hid (And.intro hb (And.intro hg hml))
        have HN := hid (bytes_none a.A a.bs.length a.c (by omega))
        clear hr P1 P2 hb hg hml
        subst hWd
        unfold Act.cells at HP1
        go_wp2
        have hS : Hid (SL wr.heap.size (w2.heap.size + 1) a Am mm.length cm km _) := hid (SL.of T1.out W1.out.box)
        refine wp_region_upto (SL wr.heap.size (w2.heap.size + 1) a Am mm.length cm km) 9 10 (by kernel_rfl) (by kernel_rfl) ?_
        refine wpUpto_take (i := 0) (v := ?_) rfl (by kernel_rfl) (by kernel_rfl) (by kernel_rfl) (by kernel_rfl) (by decide) (fun _ _ _ h => h) (Or.inl ⟨by rfl, ?_⟩) hS.out ?_
        rotate_left
        · (intro W hSW; obtain ⟨s0, s1, s2, s3, s4, s5⟩ := hSW; go_simp; rfl)
        refine wpUpto_take (i := 1) (v := ?_) rfl (by kernel_rfl) (by kernel_rfl) (by kernel_rfl) (by kernel_rfl) (by decide) (fun _ _ _ h => h) (Or.inl ⟨by rfl, ?_⟩) hS.out ?_
        rotate_left
        · (intro W hSW; obtain ⟨s0, s1, s2, s3, s4, s5⟩ := hSW; go_simp; rfl)
        refine wpUpto_take (i := 2) (v := ?_) rfl (by kernel_rfl) (by kernel_rfl) (by kernel_rfl) (by kernel_rfl) (by decide) (fun _ _ _ h => h) (Or.inl ⟨by rfl, ?_⟩) hS.out ?_
        rotate_left
        · (intro W hSW; obtain ⟨s0, s1, s2, s3, s4, s5⟩ := hSW; go_simp; rfl)
        refine wpUpto_take (i := 4) (v := ?_) rfl (by kernel_rfl) (by kernel_rfl) (by kernel_rfl) (by kernel_rfl) (by decide) (fun _ _ _ h => h) (Or.inl ⟨by rfl, ?_⟩) hS.out ?_
        rotate_left
        · (intro W hSW; obtain ⟨s0, s1, s2, s3, s4, s5⟩ := hSW; go_simp; rfl)
        refine wpUpto_take (i := 5) (v := ?_) rfl (by kernel_rfl) (by kernel_rfl) (by kernel_rfl) (by kernel_rfl) (by decide) (fun _ _ _ h => h) (Or.inl ⟨by rfl, ?_⟩) hS.out ?_
        rotate_left
        · (intro W hSW; obtain ⟨s0, s1, s2, s3, s4, s5⟩ := hSW; go_simp; rfl)
        refine wpUpto_take (i := 6) (v := ?_) rfl (by kernel_rfl) (by kernel_rfl) (by kernel_rfl) (by kernel_rfl) (by decide) (fun _ _ _ h => h) (Or.inl ⟨by rfl, ?_⟩) hS.out ?_
        rotate_left
        · (intro W hSW; obtain ⟨s0, s1, s2, s3, s4, s5⟩ := hSW; go_simp; rfl)
        simp only [Act.put, List.setIfInBounds_toArray]
        refine wpUpto_one (i := 3) rfl (by kernel_rfl) rfl ?_
        intro K hK
        go_simp
        go_at_call 11
        refine HP1.out.mono ?_
        rintro e w5 ⟨x, rfl, rfl, v5, h5i, h5f, h5o⟩
        have M5 := hid (W1.out.mid h5f T1.out R1.out BW.out)
        have hS5 := hid (SL.of M5.out.1 M5.out.2.1)
        replace h5i := hid h5i; replace h5f := hid h5f; replace h5o := hid h5o
        refine hK.out _ _ (fun _ => hS5.out) ?_
        clear hK K
        refine wpUpto_one (i := 7) rfl (by kernel_rfl) rfl ?_
        intro K hK
        go_simp
        go_at_call 12
        refine (HP2.out w5 M5.out.2.2.1 M5.out.2.2.2.1 M5.out.2.2.2.2).mono ?_
        rintro e w6 ⟨y, rfl, h6⟩
        obtain ⟨A2, c2, rfl, hq6, v6, hw6, hf6, hb6, ht6, ht7⟩ := W1.out.both (a := a) h5i.out h5f.out h5o.out h6 HM.out.1 HM.out.2.1 HM.out.2.2 M5.out.1
        have hS6 := hid (SL.of ht6 hq6)
        have b60 := hq6.cell 0
        have b61 := hq6.cell 1
        have g60 := hq6.frozen 0
        have g61 := hq6.frozen 1
        simp at b60 b61
        replace hw6 := hid hw6; replace hf6 := hid hf6; replace ht7 := hid ht7
        clear hq6 h6 ht6 hb6
        refine hK.out _ _ (fun _ => hS6.out) ?_
        clear hK K
        refine wpUpto_take (i := 8) (v := ?_) rfl (by kernel_rfl) (by kernel_rfl) (by kernel_rfl) (by kernel_rfl) (by decide) (fun _ _ _ h => h) (Or.inl ⟨by rfl, ?_⟩) hS6.out ?_
        rotate_left
        · (intro W hSW; go_simp; rfl)
        refine wpUpto_one (i := 9) rfl (by kernel_rfl) rfl ?_
        intro K hK
        go_simp
        refine hK.out _ _ (fun h => absurd rfl h) ?_
        clear hK K
        refine wpUpto_done (by kernel_rfl) ?_ _
        obtain ⟨W7, hW7⟩ : ∃ W7, W7 = (w6.setCell ⟨w2.heap.size + 1, 0, none⟩ (.slice A2 ms'.length c2)).setCell ⟨w2.heap.size + 1, 1, none⟩ (.int .i64 k') := ⟨_, rfl⟩
        rw [← hW7] at hw6 hf6 ht7 ⊢
        clear hW7 b60 b61 g60 g61
        have t71 := ht7.out.cell 1
        have t72 := ht7.out.cell 2
        have t73 := ht7.out.cell 3
        simp at t71 t72 t73
        go_wp2_with (go_at_call 11; refine (HN.out _).mono ?_; rintro e w8 ⟨rfl, h8⟩; replace h8 := hid h8)
        go_roundw
        case rel => exact ⟨j + 1, by omega, by go_num, rfl, hid (hsn.out ▸ ⟨_, _, _, _, _, _, hw6.out.new_ (Fr.of_new h8.out)⟩), ((HB.out.trans (HFD.out.below (fun _ h => h.elim) HB.out.size)).trans (hf6.out.below (fun _ h => h) BW.out)).trans (h8.out.mono (Nat.le_trans BW.out hf6.out.size))⟩
        case measure => simp [intOf]; omega
      · have q0 : ((a.u : Int) % 6 == 0) = false := by simp; omega
        have q1 : ((a.u : Int) % 6 == 1) = false := by simp; omega
        have q2 : ((a.u : Int) % 6 == 2) = true := by simp; omega
        obtain ⟨k', bs', ms', P1, P2, hb, hg, hml⟩ := pair_raw (a := a) HWR.out HJ.out.1 HJ.out.2 hba
        have HP1 := hid (P1 Wd W1.out BW.out R1.out)
        unfold wv at P2
        have HP2 := hid P2
        have HM := hid (And.intro hb (And.intro hg hml))
        have HN := hid (raw_none (.slice a.A a.bs.length a.c))
        clear hr P1 P2 hb hg hml
        subst hWd
        unfold Act.cells at HP1
        go_wp2
        have hS : Hid (SL wr.heap.size (w2.heap.size + 1) a Am mm.length cm km _) := hid (SL.of T1.out W1.out.box)
        refine wp_region_upto (SL wr.heap.size (w2.heap.size + 1) a Am mm.length cm km) 9 10 (by kernel_rfl) (by kernel_rfl) ?_
        refine wpUpto_take (i := 0) (v := ?_) rfl (by kernel_rfl) (by kernel_rfl) (by kernel_rfl) (by kernel_rfl) (by decide) (fun _ _ _ h => h) (Or.inl ⟨by rfl, ?_⟩) hS.out ?_
        rotate_left
        · (intro W hSW; obtain ⟨s0, s1, s2, s3, s4, s5⟩ := hSW; go_simp; rfl)
        refine wpUpto_take (i := 1) (v := ?_) rfl (by kernel_rfl) (by kernel_rfl) (by kernel_rfl) (by kernel_rfl) (by decide) (fun _ _ _ h => h) (Or.inl ⟨by rfl, ?_⟩) hS.out ?_
        rotate_left
        · (intro W hSW; obtain ⟨s0, s1, s2, s3, s4, s5⟩ := hSW; go_simp; rfl)
        refine wpUpto_take (i := 2) (v := ?_) rfl (by kernel_rfl) (by kernel_rfl) (by kernel_rfl) (by kernel_rfl) (by decide) (fun _ _ _ h => h) (Or.inl ⟨by rfl, ?_⟩) hS.out ?_
        rotate_left
        · (intro W hSW; obtain ⟨s0, s1, s2, s3, s4, s5⟩ := hSW; go_simp; rfl)
        refine wpUpto_take (i := 4) (v := ?_) rfl (by kernel_rfl) (by kernel_rfl) (by kernel_rfl) (by kernel_rfl) (by decide) (fun _ _ _ h => h) (Or.inl ⟨by rfl, ?_⟩) hS.out ?_
        rotate_left
        · (intro W hSW; obtain ⟨s0, s1, s2, s3, s4, s5⟩ := hSW; go_simp; rfl)
        refine wpUpto_take (i := 5) (v := ?_) rfl (by kernel_rfl) (by kernel_rfl) (by kernel_rfl) (by kernel_rfl) (by decide) (fun _ _ _ h => h) (Or.inl ⟨by rfl, ?_⟩) hS.out ?_
        rotate_left
        · (intro W hSW; obtain ⟨s0, s1, s2, s3, s4, s5⟩ := hSW; go_simp; rfl)
        refine wpUpto_take (i := 6) (v := ?_) rfl (by kernel_rfl) (by kernel_rfl) (by kernel_rfl) (by kernel_rfl) (by decide) (fun _ _ _ h => h) (Or.inl ⟨by rfl, ?_⟩) hS.out ?_
        rotate_left
        · (intro W hSW; obtain ⟨s0, s1, s2, s3, s4, s5⟩ := hSW; go_simp; rfl)
        simp only [Act.put, List.setIfInBounds_toArray]
        refine wpUpto_one (i := 3) rfl (by kernel_rfl) rfl ?_
        intro K hK
        go_simp
        go_at_call 13
        refine HP1.out.mono ?_
        rintro e w5 ⟨x, rfl, rfl, v5, h5i, h5f, h5o⟩
        have M5 := hid (W1.out.mid h5f T1.out R1.out BW.out)
        have hS5 := hid (SL.of M5.out.1 M5.out.2.1)
        replace h5i := hid h5i; replace h5f := hid h5f; replace h5o := hid h5o
        refine hK.out _ _ (fun _ => hS5.out) ?_
        clear hK K
        refine wpUpto_one (i := 7) rfl (by kernel_rfl) rfl ?_
        intro K hK
        go_simp
        go_at_call 14
        refine (HP2.out w5 M5.out.2.2.1 M5.out.2.2.2.1 M5.out.2.2.2.2).mono ?_
        rintro e w6 ⟨y, rfl, h6⟩
        obtain ⟨A2, c2, rfl, hq6, v6, hw6, hf6, hb6, ht6, ht7⟩ := W1.out.both (a := a) h5i.out h5f.out h5o.out h6 HM.out.1 HM.out.2.1 HM.out.2.2 M5.out.1
        have hS6 := hid (SL.of ht6 hq6)
        have b60 := hq6.cell 0
        have b61 := hq6.cell 1
        have g60 := hq6.frozen 0
        have g61 := hq6.frozen 1
        simp at b60 b61
        replace hw6 := hid hw6; replace hf6 := hid hf6; replace ht7 := hid ht7
        clear hq6 h6 ht6 hb6
        refine hK.out _ _ (fun _ => hS6.out) ?_
        clear hK K
        refine wpUpto_take (i := 8) (v := ?_) rfl (by kernel_rfl) (by kernel_rfl) (by kernel_rfl) (by kernel_rfl) (by decide) (fun _ _ _ h => h) (Or.inl ⟨by rfl, ?_⟩) hS6.out ?_
        rotate_left
        · (intro W hSW; go_simp; rfl)
        refine wpUpto_one (i := 9) rfl (by kernel_rfl) rfl ?_
        intro K hK
        go_simp
        refine hK.out _ _ (fun h => absurd rfl h) ?_
        clear hK K
        refine wpUpto_done (by kernel_rfl) ?_ _
        obtain ⟨W7, hW7⟩ : ∃ W7, W7 = (w6.setCell ⟨w2.heap.size + 1, 0, none⟩ (.slice A2 ms'.length c2)).setCell ⟨w2.heap.size + 1, 1, none⟩ (.int .i64 k') := ⟨_, rfl⟩
        rw [← hW7] at hw6 hf6 ht7 ⊢
        clear hW7 b60 b61 g60 g61
        have t71 := ht7.out.cell 1
        have t72 := ht7.out.cell 2
        have t73 := ht7.out.cell 3
        simp at t71 t72 t73
        go_wp2_with (go_at_call 13; refine (HN.out _).mono ?_; rintro e w8 ⟨rfl, h8⟩; replace h8 := hid h8)
        go_roundw
        case rel => exact ⟨j + 1, by omega, by go_num, rfl, hid (hsn.out ▸ ⟨_, _, _, _, _, _, hw6.out.new_ (Fr.of_new h8.out)⟩), ((HB.out.trans (HFD.out.below (fun _ h => h.elim) HB.out.size)).trans (hf6.out.below (fun _ h => h) BW.out)).trans (h8.out.mono (Nat.le_trans BW.out hf6.out.size))⟩
        case measure => simp [intOf]; omega
      · have q0 : ((a.u : Int) % 6 == 0) = false := by simp; omega
        have q1 : ((a.u : Int) % 6 == 1) = false := by simp; omega
        have q2 : ((a.u : Int) % 6 == 2) = false := by simp; omega
        have q3 : ((a.u : Int) % 6 == 3) = true := by simp; omega
        obtain ⟨h, hh⟩ : ∃ h, h = hashOf a.bs := ⟨_, rfl⟩
        have hlh : h.length = 32 := by rw [hh]; exact hashOf_length _
        have HH := hid (hash_law a.bs a.A a.c _ ((show Rb (wr.alloc (.cells a.cells.toArray 37)) w.heap.size a.A a.bs from (HE.out.1.below HB.out).alloc _).mono (by have := HB.out.size; simp; omega)))
        unfold HashOut at HH
        rw [← hh] at HH
        unfold hv at HH
        have HLH := hid hlh
        have hz := hashZ
        have SZ : Hid ((Try.prog.info? 44).map (·.size) = some (ubs h).toArray.size) := hid (by simpa [ubs_length, hlh] using sizeH)
        clear hr hh hlh
        subst hWd
        go_wp2_with (first
          | (go_at_call 15; refine HH.out.mono ?_; rintro e w4 ⟨x, rfl, rfl, h4⟩; replace h4 := hid h4)
          | (refine wpList_store_row rfl _ (.tmp 9) (.tmp 84) rfl w4.heap.size (ubs h).toArray rfl rfl 44 (ubs z32).toArray (heap_alloc_new _ _) SZ.out ?e3 (ubs_all _) ?_; rotate_right; generalize hW9 : (World.setRow _ _ _) = W9; replace hW9 := hid hW9))
        case e3 => simp [ubs_length, z32_length, HLH.out]
        have hf4 : Fr (fun _ => False) wr w4 := ((Fr.refl _ _).alloc _).trans (Fr.of_new h4.out)
        have hf9 : Fr (fun _ => False) wr W9 := by
          rw [← hW9.out]
          exact (hf4.alloc _).setRow (.inl (by have := h4.out.size; simp at this; omega)) _
        have X9 : Hid (At W9.drew w4.heap.size (ubs h).toArray 44) := hid (by rw [← hW9.out]; exact setRow_heap _ _ _ _ _ _ (heap_alloc_new _ _))
        have T9 : Hid (At W9.drew wr.heap.size a.cells.toArray 37) := hid (by
          rw [← hW9.out]
          have e1 : At w4 wr.heap.size a.cells.toArray 37 := (At.new _ _ _).new_ h4.out
          exact (setRow_other _ _ _ _ (by have := e1.lt; omega)).trans (e1.alloc _))
        have HF9 := hid (hf9.drew)
        have W1' := hid (HWR.out.new_ HF9.out)
        have R9 := hid ((HE.out.1.below HB.out).fr HF9.out (fun _ _ _ => id))
        have BW' := hid (Nat.le_trans HB.out.size HF9.out.size)
        have HP1 := hid (hash_any w.heap.size w2.heap.size km vm bm h HLH.out W9.drew W1'.out.wi BW'.out (by have := HWR.out.bound HJ.out.1 HJ.out.2; omega))
        have HP2 := hid (fun w5 h1 h2 => (mraw_any km mm h Am (some ⟨w4.heap.size, 0, none⟩) cm 32 w5 h1 h2 (by have := HWR.out.bound HJ.out.1 HJ.out.2; have := HLH.out; omega)).mono fun e w' ⟨x, hx, hm⟩ => (⟨x, hx, hm.out Am⟩ : ∃ x, e = Ending.returned x ∧ MOut km (mm ++ h) Am w5 x w'))
        rw [HLH.out] at HP2
        unfold wv at HP2
        unfold hv at HP1
        have HN := hid (hash_none h)
        unfold hv at HN
        have hml : (mm ++ h).length ≤ 40 + a.bs.length + mm.length := by rw [List.length_append, HLH.out]; omega
        have HM := hid hml
        clear hf4 hf9 hml
        have hS : Hid ((fun W => SL wr.heap.size (w2.heap.size + 1) a Am mm.length cm km W ∧ At W w4.heap.size (ubs h).toArray 44) W9.drew) := hid ⟨SL.of T9.out W1'.out.box, X9.out⟩
        refine wp_region_upto (fun W => SL wr.heap.size (w2.heap.size + 1) a Am mm.length cm km W ∧ At W w4.heap.size (ubs h).toArray 44) 7 8 (by kernel_rfl) (by kernel_rfl) ?_
        refine wpUpto_take (i := 0) (v := ?_) rfl (by kernel_rfl) (by kernel_rfl) (by kernel_rfl) (by kernel_rfl) (by decide) (fun _ _ _ h => h) (Or.inl ⟨by rfl, ?_⟩) hS.out ?_
        rotate_left
        · (intro W hSW; go_simp; rfl)
        refine wpUpto_take (i := 1) (v := .agg (ubs h).toArray) rfl (by kernel_rfl) (by kernel_rfl) (by kernel_rfl) (by kernel_rfl) (by decide) (fun _ _ _ h => h) (Or.inl ⟨by rfl, ?_⟩) hS.out ?_
        · (intro W hSW; refine run_load_row 44 (.tmp 9) ?_ w4.heap.size ?_ 44 (ubs h).toArray _ hSW.2 Try.underlying44 rfl SZ.out <;> rfl)
        refine wpUpto_take (i := 3) (v := ?_) rfl (by kernel_rfl) (by kernel_rfl) (by kernel_rfl) (by kernel_rfl) (by decide) (fun _ _ _ h => h) (Or.inl ⟨by rfl, ?_⟩) hS.out ?_
        rotate_left
        · (intro W hSW; obtain ⟨⟨s0, s1, s2, s3, s4, s5⟩, s6⟩ := hSW; clear s6; go_simp; rfl)
        refine wpUpto_take (i := 4) (v := ?_) rfl (by kernel_rfl) (by kernel_rfl) (by kernel_rfl) (by kernel_rfl) (by decide) (fun _ _ _ h => h) (Or.inl ⟨by rfl, ?_⟩) hS.out ?_
        rotate_left
        · (intro W hSW; clear hSW; go_simp; rfl)
        simp only [Act.put, List.setIfInBounds_toArray]
        refine wpUpto_one (i := 2) rfl (by kernel_rfl) rfl ?_
        intro K hK
        go_simp
        go_at_call 16
        refine HP1.out.mono ?_
        rintro e w5 ⟨x, rfl, rfl, v5, h5i, h5f, h5o⟩
        have M5 := hid (W1'.out.mid h5f T9.out R9.out BW'.out)
        have X5 := hid (W1'.out.keepAt h5f X9.out (by decide) (by decide))
        replace h5i := hid h5i; replace h5f := hid h5f; replace h5o := hid h5o
        refine hK.out _ _ (fun _ => ⟨SL.of M5.out.1 M5.out.2.1, X5.out⟩) ?_
        clear hK K
        refine wpUpto_one (i := 5) rfl (by kernel_rfl) rfl ?_
        intro K hK
        go_simp
        go_at_call 14
        refine (HP2.out w5 M5.out.2.2.1 (Rd.of_drop X5.out 0 (by simp) X5.out.lt)).mono ?_
        rintro e w6 ⟨y, rfl, h6⟩
        obtain ⟨A2, c2, rfl, hq6, v6, hw6, hf6, hb6, ht6, ht7⟩ := W1'.out.both (a := a) h5i.out h5f.out h5o.out h6 (put_ok HWR.out h).1 (put_ok HWR.out h).2 HM.out M5.out.1
        have X6 := X5.out.new_ hb6
        have hne := X6.ne hq6 (by decide)
        have X7 := hid ((X6.far (p := ⟨w2.heap.size + 1, 0, none⟩) hne (.slice A2 (mm ++ h).length c2)).far (p := ⟨w2.heap.size + 1, 1, none⟩) hne (.int .i64 km))
        have hS6 := hid (And.intro (SL.of ht6 hq6) X6)
        have b60 := hq6.cell 0
        have b61 := hq6.cell 1
        have g60 := hq6.frozen 0
        have g61 := hq6.frozen 1
        simp at b60 b61
        replace hw6 := hid hw6; replace hf6 := hid hf6; replace ht7 := hid ht7
        clear hq6 h6 ht6 hb6 X6 hne
        refine hK.out _ _ (fun _ => hS6.out) ?_
        clear hK K
        refine wpUpto_take (i := 6) (v := ?_) rfl (by kernel_rfl) (by kernel_rfl) (by kernel_rfl) (by kernel_rfl) (by decide) (fun _ _ _ h => h) (Or.inl ⟨by rfl, ?_⟩) hS6.out ?_
        rotate_left
        · (intro W hSW; clear hSW; go_simp; rfl)
        refine wpUpto_one (i := 7) rfl (by kernel_rfl) rfl ?_
        intro K hK
        go_simp
        refine hK.out _ _ (fun h => absurd rfl h) ?_
        clear hK K
        refine wpUpto_done (by kernel_rfl) ?_ _
        obtain ⟨W7, hW7⟩ : ∃ W7, W7 = (w6.setCell ⟨w2.heap.size + 1, 0, none⟩ (.slice A2 (mm ++ h).length c2)).setCell ⟨w2.heap.size + 1, 1, none⟩ (.int .i64 km) := ⟨_, rfl⟩
        rw [← hW7] at hw6 hf6 ht7 X7
        have hW8 : (w6.setCell ⟨w2.heap.size + 1, 0, none⟩ (.slice A2 (mm.length + h.length) c2)).setCell ⟨w2.heap.size + 1, 1, none⟩ (.int .i64 km) = W7 := by rw [hW7, List.length_append]
        rw [hW8]
        clear hW7 hW8 b60 b61 g60 g61
        have t73 := ht7.out.cell 3
        simp at t73
        go_wp2_with (first
          | (go_at_call 16; refine (HN.out _).mono ?_; rintro e w8 ⟨rfl, h8⟩; replace h8 := hid h8)
          | (refine wpList_load_row rfl _ (.tmp 9) rfl w4.heap.size rfl 44 (ubs h).toArray (0, 0) _ X7.out Try.underlying44 rfl SZ.out ?_))
        go_roundw
        case rel => exact ⟨j + 1, by omega, by go_num, rfl, hid (hsn.out ▸ ⟨_, _, _, _, _, _, hw6.out.new_ (Fr.of_new h8.out)⟩), ((HB.out.trans (HF9.out.below (fun _ h => h.elim) HB.out.size)).trans (hf6.out.below (fun _ h => h) BW'.out)).trans (h8.out.mono (Nat.le_trans BW'.out hf6.out.size))⟩
        case measure => simp [intOf]; omega
      · have q0 : ((a.u : Int) % 6 == 0) = false := by simp; omega
        have q1 : ((a.u : Int) % 6 == 1) = false := by simp; omega
        have q2 : ((a.u : Int) % 6 == 2) = false := by simp; omega
        have q3 : ((a.u : Int) % 6 == 3) = false := by simp; omega
        have q4 : ((a.u : Int) % 6 == 4) = true := by simp; omega
        obtain ⟨k', bs', ms', P1, P2, hb, hg, hml⟩ := pair_flag (a := a) HWR.out HJ.out.1 HJ.out.2
        have HP1 := hid (P1 Wd W1.out BW.out R1.out)
        unfold wv at P2
        have HP2 := hid P2
        have HM := hid (And.intro hb (And.intro hg hml))
        have HN := hid (flag_none a.odd)
        have hodd : ((a.n : Int) % 2 == 1) = a.odd := by unfold Act.odd; rw [Bool.eq_iff_iff]; simp; omega
        have hodd' : ((a.n : Int).tmod 2 == 1) = a.odd := by rw [Int.tmod_eq_emod_of_nonneg (by omega)]; exact hodd
        clear hr P1 P2 hb hg hml
        subst hWd
        unfold Act.cells at HP1
        go_wp2
        have hS : Hid (SL wr.heap.size (w2.heap.size + 1) a Am mm.length cm km _) := hid (SL.of T1.out W1.out.box)
        refine wp_region_upto (SL wr.heap.size (w2.heap.size + 1) a Am mm.length cm km) 13 14 (by kernel_rfl) (by kernel_rfl) ?_
        refine wpUpto_take (i := 0) (v := ?_) rfl (by kernel_rfl) (by kernel_rfl) (by kernel_rfl) (by kernel_rfl) (by decide) (fun _ _ _ h => h) (Or.inl ⟨by rfl, ?_⟩) hS.out ?_
        rotate_left
        · (intro W hSW; obtain ⟨s0, s1, s2, s3, s4, s5⟩ := hSW; go_simp; rfl)
        refine wpUpto_take (i := 1) (v := ?_) rfl (by kernel_rfl) (by kernel_rfl) (by kernel_rfl) (by kernel_rfl) (by decide) (fun _ _ _ h => h) (Or.inl ⟨by rfl, ?_⟩) hS.out ?_
        rotate_left
        · (intro W hSW; obtain ⟨s0, s1, s2, s3, s4, s5⟩ := hSW; go_simp; rfl)
        refine wpUpto_take (i := 2) (v := ?_) rfl (by kernel_rfl) (by kernel_rfl) (by kernel_rfl) (by kernel_rfl) (by decide) (fun _ _ _ h => h) (Or.inl ⟨by rfl, ?_⟩) hS.out ?_
        rotate_left
        · (intro W hSW; obtain ⟨s0, s1, s2, s3, s4, s5⟩ := hSW; go_simp; rfl)
        refine wpUpto_take (i := 3) (v := ?_) rfl (by kernel_rfl) (by kernel_rfl) (by kernel_rfl) (by kernel_rfl) (by decide) (fun _ _ _ h => h) (Or.inl ⟨by rfl, ?_⟩) hS.out ?_
        rotate_left
        · (intro W hSW; obtain ⟨s0, s1, s2, s3, s4, s5⟩ := hSW; go_simp; rfl)
        refine wpUpto_take (i := 4) (v := ?_) rfl (by kernel_rfl) (by kernel_rfl) (by kernel_rfl) (by kernel_rfl) (by decide) (fun _ _ _ h => h) (Or.inl ⟨by rfl, ?_⟩) hS.out ?_
        rotate_left
        · (intro W hSW; obtain ⟨s0, s1, s2, s3, s4, s5⟩ := hSW; go_simp; rfl)
        refine wpUpto_take (i := 6) (v := ?_) rfl (by kernel_rfl) (by kernel_rfl) (by kernel_rfl) (by kernel_rfl) (by decide) (fun _ _ _ h => h) (Or.inl ⟨by rfl, ?_⟩) hS.out ?_
        rotate_left
        · (intro W hSW; obtain ⟨s0, s1, s2, s3, s4, s5⟩ := hSW; go_simp; rfl)
        refine wpUpto_take (i := 7) (v := ?_) rfl (by kernel_rfl) (by kernel_rfl) (by kernel_rfl) (by kernel_rfl) (by decide) (fun _ _ _ h => h) (Or.inl ⟨by rfl, ?_⟩) hS.out ?_
        rotate_left
        · (intro W hSW; obtain ⟨s0, s1, s2, s3, s4, s5⟩ := hSW; go_simp; rfl)
        refine wpUpto_take (i := 8) (v := ?_) rfl (by kernel_rfl) (by kernel_rfl) (by kernel_rfl) (by kernel_rfl) (by decide) (fun _ _ _ h => h) (Or.inl ⟨by rfl, ?_⟩) hS.out ?_
        rotate_left
        · (intro W hSW; obtain ⟨s0, s1, s2, s3, s4, s5⟩ := hSW; go_simp; rfl)
        refine wpUpto_take (i := 9) (v := ?_) rfl (by kernel_rfl) (by kernel_rfl) (by kernel_rfl) (by kernel_rfl) (by decide) (fun _ _ _ h => h) (Or.inl ⟨by rfl, ?_⟩) hS.out ?_
        rotate_left
        · (intro W hSW; obtain ⟨s0, s1, s2, s3, s4, s5⟩ := hSW; go_simp; rfl)
        refine wpUpto_take (i := 10) (v := ?_) rfl (by kernel_rfl) (by kernel_rfl) (by kernel_rfl) (by kernel_rfl) (by decide) (fun _ _ _ h => h) (Or.inl ⟨by rfl, ?_⟩) hS.out ?_
        rotate_left
        · (intro W hSW; obtain ⟨s0, s1, s2, s3, s4, s5⟩ := hSW; go_simp; rfl)
        simp only [Act.put, List.setIfInBounds_toArray]
        refine wpUpto_one (i := 5) rfl (by kernel_rfl) rfl ?_
        intro K hK
        go_simp
        go_at_call 17
        refine HP1.out.mono ?_
        rintro e w5 ⟨x, rfl, rfl, v5, h5i, h5f, h5o⟩
        have M5 := hid (W1.out.mid h5f T1.out R1.out BW.out)
        have hS5 := hid (SL.of M5.out.1 M5.out.2.1)
        replace h5i := hid h5i; replace h5f := hid h5f; replace h5o := hid h5o
        refine hK.out _ _ (fun _ => hS5.out) ?_
        clear hK K
        refine wpUpto_one (i := 11) rfl (by kernel_rfl) rfl ?_
        intro K hK
        go_simp
        go_at_call 18
        refine (HP2.out w5 M5.out.2.2.1 M5.out.2.2.2.1 M5.out.2.2.2.2).mono ?_
        rintro e w6 ⟨y, rfl, h6⟩
        obtain ⟨A2, c2, rfl, hq6, v6, hw6, hf6, hb6, ht6, ht7⟩ := W1.out.both (a := a) h5i.out h5f.out h5o.out h6 HM.out.1 HM.out.2.1 HM.out.2.2 M5.out.1
        have hS6 := hid (SL.of ht6 hq6)
        have b60 := hq6.cell 0
        have b61 := hq6.cell 1
        have g60 := hq6.frozen 0
        have g61 := hq6.frozen 1
        simp at b60 b61
        replace hw6 := hid hw6; replace hf6 := hid hf6; replace ht7 := hid ht7
        clear hq6 h6 ht6 hb6
        refine hK.out _ _ (fun _ => hS6.out) ?_
        clear hK K
        refine wpUpto_take (i := 12) (v := ?_) rfl (by kernel_rfl) (by kernel_rfl) (by kernel_rfl) (by kernel_rfl) (by decide) (fun _ _ _ h => h) (Or.inl ⟨by rfl, ?_⟩) hS6.out ?_
        rotate_left
        · (intro W hSW; go_simp; rfl)
        refine wpUpto_one (i := 13) rfl (by kernel_rfl) rfl ?_
        intro K hK
        go_simp
        refine hK.out _ _ (fun h => absurd rfl h) ?_
        clear hK K
        refine wpUpto_done (by kernel_rfl) ?_ _
        obtain ⟨W7, hW7⟩ : ∃ W7, W7 = (w6.setCell ⟨w2.heap.size + 1, 0, none⟩ (.slice A2 ms'.length c2)).setCell ⟨w2.heap.size + 1, 1, none⟩ (.int .i64 k') := ⟨_, rfl⟩
        rw [← hW7] at hw6 hf6 ht7 ⊢
        clear hW7 b60 b61 g60 g61
        have t71 := ht7.out.cell 1
        have t72 := ht7.out.cell 2
        have t73 := ht7.out.cell 3
        simp at t71 t72 t73
        go_wp2_with (go_at_call 17; refine (HN.out _).mono ?_; rintro e w8 ⟨rfl, h8⟩; replace h8 := hid h8)
        go_roundw
        case rel => exact ⟨j + 1, by omega, by go_num, rfl, hid (hsn.out ▸ ⟨_, _, _, _, _, _, hw6.out.new_ (Fr.of_new h8.out)⟩), ((HB.out.trans (HFD.out.below (fun _ h => h.elim) HB.out.size)).trans (hf6.out.below (fun _ h => h) BW.out)).trans (h8.out.mono (Nat.le_trans BW.out hf6.out.size))⟩
        case measure => simp [intOf]; omega
      · have q0 : ((a.u : Int) % 6 == 0) = false := by simp; omega
        have q1 : ((a.u : Int) % 6 == 1) = false := by simp; omega
        have q2 : ((a.u : Int) % 6 == 2) = false := by simp; omega
        have q3 : ((a.u : Int) % 6 == 3) = false := by simp; omega
        have q4 : ((a.u : Int) % 6 == 4) = false := by simp; omega
        clear hr
        subst hWd
        go_wp2
        go_roundw
        case rel => exact ⟨j + 1, by omega, by go_num, rfl, hid (hsn.out ▸ ⟨_, _, _, _, _, _, (HWR.out.new_ ((Fr.refl _ _).alloc _)).skip a⟩), HB.out.alloc HB.out.size _⟩
        case measure => simp [intOf]; omega
    · obtain rfl : j = acts.length := by omega
      have hwr := HWR.out
      rw [List.take_length] at hwr
      have hlen := hwr.bound HL.out HT.out
      have HI : Hid (∀ w, Calls Try.prog 21 #[errV 11, .int .i64 11] w fun e w' => e = .returned (.bool true) ∧ w = w') := hid (fun w => by simpa using eis_any 11 11 w)
      have HU : Hid (∀ w, Calls Try.prog 20 #[errV km] w fun e w' => e = .returned (.int .i64 km) ∧ w = w') := hid (enum_any km)
      have HDN := hid done_nil
      by_cases hk : km = 0
      · subst hk
        obtain rfl := hwr.good rfl
        have HD := hid (done_good _ _ _ _ wr hwr.wi (by omega))
        rw [errV_zero] at HD
        have HX := hid (And.intro hwr.box (And.intro hwr.rd hwr.wi))
        have HBL := hid hlen
        clear hwr hlen
        go_upto_region 32 with (go_at_call 19; refine HD.out.mono ?_; rintro e w3 ⟨x, rfl, hx3⟩; obtain ⟨A3, c3, rfl, -⟩ := own_form hx3.1; have b30 := (HX.out.1.new_ hx3.2).cell 0; have b31 := (HX.out.1.new_ hx3.2).cell 1; simp at b30 b31; replace hx3 := hid hx3)
        clear HD
        go_wp2_with (go_at_call 19; refine (HDN.out _).mono ?_; rintro e w4 ⟨rfl, rfl⟩)
        have HRA : Hid (Rb w3 w3.heap.size A3 bm) := hid (Rd.of_own hx3.out.1)
        have HRB : Hid (Rb w3 w3.heap.size Am bm) := hid (((HX.out.2.1.below hx3.out.2).mono hx3.out.2.size))
        have HQ := hid (nbytes_same bm A3 Am c3 cm _ _ _ HRA.out HRB.out)
        go_wp2_with (first
          | (go_at_call 22; refine HQ.out.mono ?_; rintro e w5 ⟨rfl, rfl⟩)
          | (go_at_call 21; refine (HI.out _).mono ?_; rintro e w6 ⟨rfl, rfl⟩))
        go_ret
        exact ⟨rfl, HB.out.trans (hx3.out.2.mono HB.out.size)⟩
      · have HD := hid (done_bad _ _ _ _ _ hk wr hwr.wi)
        have b30 := hwr.box.cell 0
        have b31 := hwr.box.cell 1
        simp at b30 b31
        have hkn : ((km : Int) != 0) = true := by simp; omega
        have hke : ((km : Int) == km) = true := by simp
        clear hwr hlen hk
        go_upto_region 32 with (go_at_call 19; refine HD.out.mono ?_; rintro e w3 ⟨rfl, n, hw3⟩; replace hw3 := hid hw3)
        have b30' : w3.cell? ⟨w2.heap.size + 1, 0, none⟩ = some (.slice Am mm.length cm) := by rw [hw3.out]; exact b30
        have b31' : w3.cell? ⟨w2.heap.size + 1, 1, none⟩ = some (.int .i64 km) := by rw [hw3.out]; exact b31
        clear HD b30 b31
        go_wp2_with (go_at_call 19; refine (HDN.out _).mono ?_; rintro e w4 ⟨rfl, rfl⟩)
        go_quiet (first
          | (go_at_call 20; exact Calls.quiet_of_same ((HU.out _).mono fun _ _ h => ⟨h.1, h.2.symm⟩))
          | (go_at_call 21; exact Calls.quiet_of_same ((HI.out _).mono fun _ _ h => ⟨h.1, h.2.symm⟩)))
        go_wp2
        go_ret
        exact ⟨rfl, HB.out.trans (hw3.out ▸ ⟨rfl, rfl, rfl, Nat.le_refl _, fun _ _ => rfl⟩)⟩
end Go.Proofs.Ytmgdngpdgjdicaa
