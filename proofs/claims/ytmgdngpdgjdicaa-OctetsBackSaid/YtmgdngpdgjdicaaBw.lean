/-
  What is written is read as it was: the statement's walk.
-/
import Derived.Test.YtmgdngpdgjdicaaBr
namespace Go.Proofs.Ytmgdngpdgjdicaa
open Go.RowKit

set_option maxHeartbeats 4000000 in
set_option maxRecDepth 100000 in
theorem back_walk (acts : List Act) (S : Option Addr) (c : Nat) (w : World) (h : Script w w.heap.size S acts) (hl : acts.length ≤ 9223372036854775807) :
    Calls Try.prog 5 #[.slice S acts.length c] w fun e w' => e = .returned (.bool true) ∧ Below w.heap.size w w' := by
  have H := hid h
  clear h
  go_enter Try.func5, Try.ntmps5
  go_wp2_with (first
    | (go_at_call 7; refine (alive_any _).mono ?_; rintro e w1 ⟨rfl, h1⟩; replace h1 := hid h1)
    | (go_at_call 8; refine (long_any acts S c w1 ((H.out.below h1.out).mono h1.out.size) hl).mono ?_; rintro e w2 ⟨x, rfl, b, rfl, h2⟩; replace h2 := hid h2; cases b))
  rotate_left
  · go_ret
    exact ⟨rfl, h1.out.trans (h2.out.2.mono h1.out.size)⟩
  obtain ⟨hlen, htot⟩ := h2.out.1 (by trivial)
  have hb0 : Below w.heap.size w (w2.alloc (.cells #[.nilIface, .slice none 0 0] 32)) := (h1.out.trans (h2.out.2.mono h1.out.size)).alloc (Nat.le_trans h1.out.size h2.out.2.size) _
  have hw0 : Wrote 5 (w2.alloc (.cells #[.nilIface, .slice none 0 0] 32)) w.heap.size w2.heap.size [] :=
    ⟨0, .slice none 0 0, [], ⟨At.new _ _ _, World.ownsRow_nil _ _ _ _, Nat.le_trans h1.out.size h2.out.2.size⟩, fun _ => rfl, fun _ => ⟨fun a ha => (by cases ha), rfl⟩⟩
  have HB0 := hid hb0
  have HW0 := hid hw0
  have HL := hid hlen
  have HT := hid htot
  clear hb0 hw0 hlen htot
  go_loopw [3, 20] (fun x i wr => ∃ (j p : Nat), j ≤ acts.length ∧ i = .int .i64 j ∧ x = .pointer (some ⟨p, 0, none⟩) ∧ Hid (Wrote 5 wr w.heap.size p (acts.take j)) ∧ Hid (Below w.heap.size w wr)) (fun _ i _ => acts.length - (intOf i).toNat)
  case atStart => exact ⟨0, _, Nat.zero_le _, rfl, rfl, HW0, HB0⟩
  case round =>
    obtain ⟨j, p, hj, rfl, rfl, HW, HB⟩ := hrel
    by_cases hlt : j < acts.length
    · obtain ⟨b, o, rfl, hbl, c0, c1, c2, c3⟩ := (H.out.below HB.out).at_ hlt
      obtain ⟨a, ha⟩ : ∃ a, a = acts[j] := ⟨_, rfl⟩
      have hsn := hid (take_snoc acts j hlt)
      have he := H.out.each acts[j] (List.getElem_mem hlt)
      rw [← ha] at c0 c1 c2 c3 hsn he
      have HE := hid he
      have HA := hid ha
      clear he ha
      have hue := a.u_eq
      have hta := total_take acts (j + 1)
      have hta2 := total_take acts j
      rw [hsn.out, total_snoc] at hta
      have hba : a.bs.length ≤ 200000 := by have := HT.out; omega
      have hjl : (acts.take j).length ≤ 41 := by have := HL.out; simp; omega
      have hjt : total (acts.take j) ≤ 200000 := by have := HT.out; omega
      have HJ := hid (And.intro hjl hjt)
      clear hta hta2 hjl hjt
      have W1 : Hid (Wrote 5 (wr.alloc (.cells a.cells.toArray 37)) w.heap.size p (acts.take j)) := hid (HW.out.fr ((Fr.refl (fun _ => False) _).alloc _) (fun _ _ => id))
      have R1 : Hid (Rb (wr.alloc (.cells a.cells.toArray 37)) w.heap.size a.A a.bs) := hid ((HE.out.1.below HB.out).alloc _)
      have hbw : w.heap.size ≤ (wr.alloc (.cells a.cells.toArray 37)).heap.size := by have := HB.out.size; simp; omega
      have BW := hid hbw
      clear hbw
      unfold Act.cells at W1 R1 BW
      have hr : a.u % 5 = 0 ∨ a.u % 5 = 1 ∨ a.u % 5 = 2 ∨ a.u % 5 = 3 ∨ a.u % 5 = 4 := by omega
      rcases hr with hr | hr | hr | hr | hr
      · have q0 : ((a.u : Int) % 5 == 0) = true := by simp; omega
        have HC := hid (write_num W1.out BW.out HJ.out.1 HJ.out.2 hr HE.out.2.2.2.1)
        clear hr
        go_wp2_with (go_at_call 9; refine HC.out.mono ?_; rintro e w3 ⟨x, rfl, rfl, h3⟩; replace h3 := hid h3)
        go_roundw
        case rel => exact ⟨j + 1, p, by omega, by go_num, rfl, hsn.out ▸ h3.out.1, (HB.out.alloc HB.out.size _).trans (h3.out.2.below (fun _ h => h) BW.out)⟩
        case measure => simp [intOf]; omega
      · have q0 : ((a.u : Int) % 5 == 0) = false := by simp; omega
        have q1 : ((a.u : Int) % 5 == 1) = true := by simp; omega
        have HC := hid (write_bytes W1.out BW.out HJ.out.1 HJ.out.2 hr R1.out)
        clear hr
        go_wp2_with (go_at_call 11; refine HC.out.mono ?_; rintro e w3 ⟨x, rfl, rfl, h3⟩; replace h3 := hid h3)
        go_roundw
        case rel => exact ⟨j + 1, p, by omega, by go_num, rfl, hsn.out ▸ h3.out.1, (HB.out.alloc HB.out.size _).trans (h3.out.2.below (fun _ h => h) BW.out)⟩
        case measure => simp [intOf]; omega
      · have q0 : ((a.u : Int) % 5 == 0) = false := by simp; omega
        have q1 : ((a.u : Int) % 5 == 1) = false := by simp; omega
        have q2 : ((a.u : Int) % 5 == 2) = true := by simp; omega
        have HC := hid (write_raw W1.out BW.out HJ.out.1 HJ.out.2 hr R1.out hba)
        clear hr
        go_wp2_with (go_at_call 13; refine HC.out.mono ?_; rintro e w3 ⟨x, rfl, rfl, h3⟩; replace h3 := hid h3)
        go_roundw
        case rel => exact ⟨j + 1, p, by omega, by go_num, rfl, hsn.out ▸ h3.out.1, (HB.out.alloc HB.out.size _).trans (h3.out.2.below (fun _ h => h) BW.out)⟩
        case measure => simp [intOf]; omega
      · have q0 : ((a.u : Int) % 5 == 0) = false := by simp; omega
        have q1 : ((a.u : Int) % 5 == 1) = false := by simp; omega
        have q2 : ((a.u : Int) % 5 == 2) = false := by simp; omega
        have q3 : ((a.u : Int) % 5 == 3) = true := by simp; omega
        have HH := hid (hash_law a.bs a.A a.c _ (R1.out.mono BW.out))
        have HC := hid (fun w3 (hb : Below _ _ w3) => write_hash (a := a) (W1.out.fr (Fr.of_new (S := fun _ => False) hb) (fun _ _ => id)) (Nat.le_trans BW.out hb.size) HJ.out.1 HJ.out.2 hr)
        clear hr
        go_wp2_with (first
          | (go_at_call 15; refine HH.out.mono ?_; rintro e w3 ⟨x, rfl, rfl, h3⟩; replace h3 := hid h3)
          | (go_at_call 16; refine (HC.out _ h3.out).mono ?_; rintro e w4 ⟨x, rfl, rfl, h4⟩; replace h4 := hid h4))
        go_roundw
        case rel => exact ⟨j + 1, p, by omega, by go_num, rfl, hsn.out ▸ h4.out.1, ((HB.out.alloc HB.out.size _).trans (h3.out.mono BW.out)).trans (h4.out.2.below (fun _ h => h) (Nat.le_trans BW.out h3.out.size))⟩
        case measure => simp [intOf]; omega
      · have q0 : ((a.u : Int) % 5 == 0) = false := by simp; omega
        have q1 : ((a.u : Int) % 5 == 1) = false := by simp; omega
        have q2 : ((a.u : Int) % 5 == 2) = false := by simp; omega
        have q3 : ((a.u : Int) % 5 == 3) = false := by simp; omega
        have HC := hid (write_flag W1.out BW.out HJ.out.1 HJ.out.2 hr)
        have hodd : ((a.n : Int) % 2 == 1) = a.odd := by unfold Act.odd; rw [Bool.eq_iff_iff]; simp; omega
        clear hr
        go_wp2_with (go_at_call 17; refine HC.out.mono ?_; rintro e w3 ⟨x, rfl, rfl, h3⟩; replace h3 := hid h3)
        go_roundw
        case rel => exact ⟨j + 1, p, by omega, by go_num, rfl, hsn.out ▸ h3.out.1, (HB.out.alloc HB.out.size _).trans (h3.out.2.below (fun _ h => h) BW.out)⟩
        case measure => simp [intOf]; omega
    · obtain rfl : j = acts.length := by omega
      have hw := HW.out
      rw [List.take_length] at hw
      obtain ⟨k, v, bs, hi, hk1, hk2⟩ := hw
      have hlen := Wrote.len hk1 hk2 HL.out HT.out
      by_cases hk : k = 0
      · subst hk
        obtain ⟨hok, hbs⟩ := hk2 rfl
        have HD := hid (done_good _ _ _ _ wr hi (by omega))
        rw [errV_zero] at HD
        have HOK := hid hok
        have HBS := hid hbs
        have HLN := hid hlen
        clear hk1 hk2 hi hok hbs hlen
        go_wp2_with (first
          | (go_at_call 19; refine HD.out.mono ?_; rintro e w3 ⟨x, rfl, hx3⟩; obtain ⟨A3, c3, rfl, -⟩ := own_form hx3.1; replace hx3 := hid hx3)
          | (go_at_call 23; refine (from_any bs A3 c3 w3 (Rd.of_own hx3.out.1) (by have := HLN.out; omega)).mono ?_; rintro e w4 ⟨p4, rfl, h4⟩; replace h4 := hid h4))
        have hb4 : Below w.heap.size w w4 := (HB.out.trans (hx3.out.2.mono HB.out.size)).trans (h4.out.2.2.mono (Nat.le_trans HB.out.size hx3.out.2.size))
        have HB4 := hid hb4
        have HR4 : Hid (RS w4 (fun g => w3.heap.size ≤ g ∧ g < w4.heap.size) p4 0 ((acts.drop 0).flatMap (Act.enc 5))) := hid (by rw [List.drop_zero, ← HBS.out]; exact h4.out.2.1)
        have HP4 : Hid (w.heap.size ≤ p4) := hid (Nat.le_trans (Nat.le_trans HB.out.size hx3.out.2.size) h4.out.1)
        clear hb4
        go_loopw [76] (fun i wr => ∃ (j : Nat), j ≤ acts.length ∧ i = .int .i64 j ∧ Hid (RS wr (fun g => w3.heap.size ≤ g ∧ g < w4.heap.size) p4 0 ((acts.drop j).flatMap (Act.enc 5))) ∧ Hid (Below w.heap.size w wr)) (fun i _ => acts.length - (intOf i).toNat)
        case atStart => exact ⟨0, Nat.zero_le _, rfl, HR4, HB4⟩
        case round =>
          obtain ⟨j, hj, rfl, HR, HQ⟩ := hrel
          by_cases hlt : j < acts.length
          · obtain ⟨b, o, rfl, hbl, c0, c1, c2, c3⟩ := (H.out.below HQ.out).at_ hlt
            obtain ⟨a, ha⟩ : ∃ a, a = acts[j] := ⟨_, rfl⟩
            obtain ⟨r, hr'⟩ : ∃ r, r = (acts.drop (j + 1)).flatMap (Act.enc 5) := ⟨_, rfl⟩
            have he := H.out.each acts[j] (List.getElem_mem hlt)
            have hok := HOK.out acts[j] (List.getElem_mem hlt)
            have hrs := HR.out
            have hln := flat_length 5 (acts.drop j) (fun x hx => HOK.out x (List.mem_of_mem_drop hx))
            have hlt2 := total_drop acts j
            have hfl : (acts.drop j).flatMap (Act.enc 5) = a.enc 5 ++ r := by rw [List.drop_eq_getElem_cons hlt, List.flatMap_cons, ← ha, ← hr']
            rw [hfl] at hrs
            rw [hfl, List.length_drop] at hln
            clear hfl
            have hl9 : (a.enc 5 ++ r).length ≤ 1000000000 := by have := HL.out; have := HT.out; omega
            rw [← ha] at c0 c1 c2 c3 he hok
            have HE := hid he
            have HA := hid ha
            have HO := hid hok
            have HRR := hid hr'
            have HL9 := hid hl9
            have hue := a.u_eq
            have W1 : Hid (RS ((wr.alloc (.cells a.cells.toArray 37)).drew) (fun g => w3.heap.size ≤ g ∧ g < w4.heap.size) p4 0 (a.enc 5 ++ r)) := hid (hrs.fr (((Fr.refl (fun _ => False) _).alloc _).drew) (fun _ _ => id))
            have T1 : Hid (At ((wr.alloc (.cells a.cells.toArray 37)).drew) wr.heap.size a.cells.toArray 37) := hid (At.new _ _ _)
            have R1 : Hid (Rb ((wr.alloc (.cells a.cells.toArray 37)).drew) w.heap.size a.A a.bs) := hid ((HE.out.1.below HQ.out).alloc _).drew
            have HPL : Hid (∀ g, g < w.heap.size → ¬ Only p4 g) := hid (fun g hg h => by have : g = p4 := h; have := HP4.out; omega)
            have hpq := hrs.lt
            have HPQ := hid hpq
            clear he ha hok hrs hln hlt2 hr' hl9 hpq
            unfold Act.cells at W1 T1 R1
            have hr : a.u % 5 = 0 ∨ a.u % 5 = 1 ∨ a.u % 5 = 2 ∨ a.u % 5 = 3 ∨ a.u % 5 = 4 := by omega
            rcases hr with hr | hr | hr | hr | hr
            · have q0 : ((a.u : Int) % 5 == 0) = true := by simp; omega
              have HC := hid (read_num W1.out hr HO.out)
              clear hr
              go_wp2
              go_region_law (first
                | (go_simp; go_at_call 25; refine HC.out.mono ?_; rintro e w5 ⟨rfl, h5⟩; have d2 := (T1.out.fr h5.2 (by show ¬ _ = p4; have := HPQ.out; omega)).cell 2; simp at d2; replace h5 := hid h5))
              all_goals
                go_wp2
                go_roundw
                case rel => exact ⟨j + 1, by omega, by go_num, hid (HRR.out ▸ h5.out.1), (HQ.out.alloc HQ.out.size _).drew.trans (h5.out.2.below (fun g hg => by have : g = p4 := hg; have := HP4.out; omega) (by have := HQ.out.size; simp; omega))⟩
                case measure => simp [intOf]; omega
            · have q0 : ((a.u : Int) % 5 == 0) = false := by simp; omega
              have q1 : ((a.u : Int) % 5 == 1) = true := by simp; omega
              have HC := hid (read_bytes W1.out hr HO.out HL9.out)
              clear hr
              go_wp2
              go_region_law (first
                | (go_simp; go_at_call 27; refine HC.out.mono ?_; rintro e w5 ⟨A5, c5, rfl, h5⟩; have d3 := (T1.out.fr h5.2.2 (by show ¬ _ = p4; have := HPQ.out; omega)).cell 3; simp at d3; replace h5 := hid h5)
                | (go_simp; go_at_call 22; refine (nbytes_same a.bs A5 a.A c5 a.c w5 _ _ h5.out.1 (R1.out.frB h5.out.2.2 HPL.out)).mono ?_; rintro e w6 ⟨rfl, rfl⟩))
              all_goals
                go_wp2
                go_roundw
                case rel => exact ⟨j + 1, by omega, by go_num, hid (HRR.out ▸ h5.out.2.1), (HQ.out.alloc HQ.out.size _).drew.trans (h5.out.2.2.below (fun g hg => by have : g = p4 := hg; have := HP4.out; omega) (by have := HQ.out.size; simp; omega))⟩
                case measure => simp [intOf]; omega
            · have q0 : ((a.u : Int) % 5 == 0) = false := by simp; omega
              have q1 : ((a.u : Int) % 5 == 1) = false := by simp; omega
              have q2 : ((a.u : Int) % 5 == 2) = true := by simp; omega
              have HC := hid (read_raw W1.out hr HL9.out)
              clear hr
              go_wp2
              go_region_law (first
                | (go_simp; go_at_call 29; refine HC.out.mono ?_; rintro e w5 ⟨A5, c5, rfl, h5⟩; have d3 := (T1.out.fr h5.2.2 (by show ¬ _ = p4; have := HPQ.out; omega)).cell 3; simp at d3; replace h5 := hid h5)
                | (go_simp; go_at_call 22; refine (nbytes_same a.bs A5 a.A c5 a.c w5 _ _ h5.out.1 (R1.out.frB h5.out.2.2 HPL.out)).mono ?_; rintro e w6 ⟨rfl, rfl⟩))
              all_goals
                go_wp2
                go_roundw
                case rel => exact ⟨j + 1, by omega, by go_num, hid (HRR.out ▸ h5.out.2.1), (HQ.out.alloc HQ.out.size _).drew.trans (h5.out.2.2.below (fun g hg => by have : g = p4 := hg; have := HP4.out; omega) (by have := HQ.out.size; simp; omega))⟩
                case measure => simp [intOf]; omega
            · have q0 : ((a.u : Int) % 5 == 0) = false := by simp; omega
              have q1 : ((a.u : Int) % 5 == 1) = false := by simp; omega
              have q2 : ((a.u : Int) % 5 == 2) = false := by simp; omega
              have q3 : ((a.u : Int) % 5 == 3) = true := by simp; omega
              have HC := hid (read_hash W1.out hr)
              obtain ⟨h, hh⟩ : ∃ h, h = hashOf a.bs := ⟨_, rfl⟩
              have HL := hid (fun w6 hx => hash_law a.bs a.A a.c w6 hx)
              unfold HashOut at HL
              have hlh : h.length = 32 := by rw [hh]; exact hashOf_length _
              rw [← hh] at HC HL
              have heq := fun w => eql_hash w h h hlh hlh
              have hb : (h == h) = true := by simp
              rw [hb] at heq
              unfold hv at heq HC HL
              clear hr hb hh hlh
              go_wp2
              go_region_law (first
                | (go_simp; go_at_call 31; refine HC.out.mono ?_; rintro e w5 ⟨rfl, h5⟩; have d3 := (T1.out.fr h5.2 (by show ¬ _ = p4; have := HPQ.out; omega)).cell 3; simp at d3; replace h5 := hid h5)
                | (go_simp; go_at_call 15; refine (HL.out w5 (R1.out.frB h5.out.2 HPL.out).lt).mono ?_; rintro e w6 ⟨x, rfl, rfl, h6⟩; replace h6 := hid h6))
              all_goals
                go_wp2
                go_roundw
                case rel => exact ⟨j + 1, by omega, by go_num, hid ((HRR.out ▸ h5.out.1).new h6.out), ((HQ.out.alloc HQ.out.size _).drew.trans (h5.out.2.below (fun g hg => by have : g = p4 := hg; have := HP4.out; omega) (by have := HQ.out.size; simp; omega))).trans (h6.out.mono (by have := h5.out.2.size; have := HQ.out.size; simp at *; omega))⟩
                case measure => simp [intOf]; omega
            · have q0 : ((a.u : Int) % 5 == 0) = false := by simp; omega
              have q1 : ((a.u : Int) % 5 == 1) = false := by simp; omega
              have q2 : ((a.u : Int) % 5 == 2) = false := by simp; omega
              have q3 : ((a.u : Int) % 5 == 3) = false := by simp; omega
              have HC := hid (read_flag W1.out hr)
              have hodd : ((a.n : Int) % 2 == 1) = a.odd := by unfold Act.odd; rw [Bool.eq_iff_iff]; simp; omega
              clear hr
              go_wp2
              go_region_law (first
                | (go_simp; go_at_call 33; refine HC.out.mono ?_; rintro e w5 ⟨rfl, h5⟩; have d2 := (T1.out.fr h5.2 (by show ¬ _ = p4; have := HPQ.out; omega)).cell 2; simp at d2; replace h5 := hid h5))
              all_goals
                go_wp2
                go_roundw
                case rel => exact ⟨j + 1, by omega, by go_num, hid (HRR.out ▸ h5.out.1), (HQ.out.alloc HQ.out.size _).drew.trans (h5.out.2.below (fun g hg => by have : g = p4 := hg; have := HP4.out; omega) (by have := HQ.out.size; simp; omega))⟩
                case measure => simp [intOf]; omega
          · obtain rfl : j = acts.length := by omega
            have hr := HR.out
            rw [List.drop_length, List.flatMap_nil] at hr
            have HE := hid (end_done _ _ _ _ hr)
            rw [errV_zero] at HE
            clear hr
            go_wp2_with (go_at_call 37; refine HE.out.mono ?_; rintro e w5 ⟨rfl, rfl⟩)
            go_ret
            exact ⟨rfl, HQ.out⟩
      · have HD := hid (done_bad _ _ _ _ _ hk wr hi)
        rw [errV_pos hk] at HD
        clear hk hk1 hk2 hi hlen
        go_wp2_with (go_at_call 19; refine HD.out.mono ?_; rintro e w3 ⟨rfl, n, rfl⟩)
        go_ret
        exact ⟨rfl, HB.out.trans ⟨rfl, rfl, rfl, Nat.le_refl _, fun _ _ => rfl⟩⟩
end Go.Proofs.Ytmgdngpdgjdicaa
