/-
  Layer 10, the program's side: a short row sorted.
  Layer 10, the program's side: a slice of a few numbers of the call's own sorted; none.
  Layer 10, the program's side: the numbers of a slice, one by one, collected and sorted.
  Layer 10, the program's side: the numbers of a slice collected, sorted.
  Layer 10, the program's side: numbers of which each that is as the one ahead of it goes away.
  Layer 10, the program's side: Sort.
-/
import Derived.Test.YthkbmpocfpbkoaaDoorS2
import Derived.Test.YthkbmpocfpbkoaaDoorS3
import Derived.Test.YthkbmpocfpbkoaaDoorS4
import Derived.Deep.CutRange
import Derived.Test.YthkbmpocfpbkoaaDoorY1
import Derived.Shelf.Abstract
import Derived.Test.YthkbmpocfpbkoaaDoorS1
import Derived.Lib.SliceRun
import Derived.BigQuiet
import Derived.BigRegion
namespace Go.Proofs.YthkbmpocfpbkoaaDoor
open Go.RowKit Go.Sort

/-- What a call of the sort for a part of a row asks and does. -/
def PdqC (g c n : Nat) (sp : Array Value) (N : Nat) : Prop := ∀ (a z lim : Nat) (d : Array Nat) (W : World), z - a ≤ N → a ≤ z → z ≤ n → lim ≤ 1000 → d.size = n → Below ltN a z d → At W g (cel d sp) 33 →
    Calls Tryd.prog 116 #[.slice (some ⟨g, 0, none⟩) n c, .int .i64 (a : Int), .int .i64 (z : Int), .int .i64 (lim : Int)] W fun e w' => e = .returned (.tuple #[]) ∧ ∃ d', Sw W g sp d' w' ∧ PermIn a z d d' ∧ SortedIn ltN a z d'
set_option maxRecDepth 100000 in
set_option maxHeartbeats 4000000 in
theorem pdq_step (g c n : Nat) (sp : Array Value) (hs : n ≤ 40) (N : Nat) (ih : ∀ m, m < N → PdqC g c n sp m) : PdqC g c n sp N := by
  intro a0 z0 lim0 d0 W hN haz hz hlim hn hbel hat
  have HST := hid (Sw.start hat)
  have HB := hid (show z0 ≤ n ∧ n ≤ 40 ∧ z0 ≤ d0.size ∧ lim0 ≤ 1000 from ⟨hz, hs, by omega, hlim⟩)
  have HP0 := hid (Pq.start haz hbel)
  have HS0 := hid hn
  have HIH := hid (fun (V : World) (a z lim : Nat) (d : Array Nat) (hx : Sw W g sp d V) (h1 : z - a < N) (h2 : a ≤ z) (h3 : z ≤ n) (h4 : lim ≤ 1000) (h5 : d.size = n) (h6 : Below ltN a z d) => ih (z - a) h1 a z lim d V (Nat.le_refl _) h2 h3 h4 h5 h6 hx.at_)
  have HINS := hid (fun (V : World) (a z : Nat) (d : Array Nat) (hx : Sw W g sp d V) (h1 : a ≤ z) (h2 : z ≤ n) (h3 : d.size = n) => insertion_any g c a z n d sp V hx.at_ h3 h1 h2 (by omega))
  have HHP := hid (fun (V : World) (a z : Nat) (d : Array Nat) (hx : Sw W g sp d V) (h1 : a < z) (h2 : z ≤ n) (h3 : d.size = n) => heap_any g c a z n d sp V hx.at_ h3 h1 h2 (by omega))
  have HBR := hid (fun (V : World) (a z : Nat) (d : Array Nat) (hx : Sw W g sp d V) (h1 : a + 12 < z) (h2 : z ≤ n) (h3 : d.size = n) => sbreak_any g c a z n d sp V hx.at_ h3 h1 h2 (by omega))
  have HPV := hid (fun (V : World) (a z : Nat) (d : Array Nat) (hx : Sw W g sp d V) (h1 : a + 12 < z) (h2 : z ≤ n) (h3 : d.size = n) => pivot_any g c a z n d sp V hx.at_ h3 h1 h2 (by omega))
  have HRV := hid (fun (V : World) (a z : Nat) (d : Array Nat) (hx : Sw W g sp d V) (h1 : a < z) (h2 : z ≤ n) (h3 : d.size = n) => reverse_any g c a z n d sp V hx.at_ h3 h1 h2 (by omega))
  have HPA := hid (fun (V : World) (a z : Nat) (d : Array Nat) (hx : Sw W g sp d V) (h1 : a < z) (h2 : z ≤ n) (h3 : d.size = n) => partial_any g c a z n d sp V hx.at_ h3 h1 h2 (by omega))
  have HPE := hid (fun (V : World) (a z p : Nat) (d : Array Nat) (hx : Sw W g sp d V) (h1 : a < p) (h2 : p < z) (h3 : z ≤ n) (h4 : d.size = n) => partequal_any g c a z p n d sp V hx.at_ h4 h1 h2 h3 (by omega))
  have HPT := hid (fun (V : World) (a z p : Nat) (d : Array Nat) (hx : Sw W g sp d V) (h1 : a < p) (h2 : p < z) (h3 : z ≤ n) (h4 : d.size = n) => partition_any g c a z p n d sp V hx.at_ h4 h1 h2 h3 (by omega))
  have HNN := hid (show z0 - a0 ≤ N from hN)
  clear hN haz hz hlim hn hbel hat hs ih
  go_enter Tryd.func116, Tryd.ntmps116
  go_wp2
  go_loopg [1, 2, 3, 8, 9] N (fun k s1 s2 s3 s8 s9 wr => ∃ (a z lim : Nat) (wb wp : Bool) (d : Array Nat), s1 = .int .i64 (a : Int) ∧ s2 = .int .i64 (z : Int) ∧ s3 = .int .i64 (lim : Int) ∧ s8 = .bool wb ∧ s9 = .bool wp ∧ Hid (z - a ≤ k ∧ lim ≤ 1000 ∧ d.size = n ∧ Sw W g sp d wr ∧ Pq a0 z0 d0 a z d))
  case atStart => exact ⟨a0, z0, lim0, true, true, d0, rfl, rfl, rfl, rfl, rfl, hid ⟨HNN.out, HB.out.2.2.2, HS0.out, HST.out, HP0.out⟩⟩
  case round =>
    obtain ⟨a, z, lim, wb, wp, d, rfl, rfl, rfl, rfl, rfl, HK⟩ := hrel
    obtain ⟨l, hl⟩ : ∃ m, m = z - a := ⟨_, rfl⟩
    have hazz := HK.out.2.2.2.2.hab
    have hzz := HK.out.2.2.2.2.hb
    have el : (z : Int) - (a : Int) = (l : Int) := by omega
    have ewl : IntKind.i64.wrap (l : Int) = (l : Int) := by rw [IntKind.wrap_i64] <;> have := HB.out <;> omega
    by_cases h12 : l ≤ 12
    · have d12 : decide ((l : Int) ≤ 12) = true := by simp; omega
      have d12n : decide (l ≤ 12) = true := by simp; omega
      have HI := hid (HINS.out wr a z d HK.out.2.2.2.1 hazz (by have := HB.out; omega) HK.out.2.2.1)
      have HF := hid (HK.out.2.2.2.2.end_ HB.out.2.2.1 (insertionSort_holds swoN d a z hazz (by have := HB.out; have := HK.out.2.2.1; omega)).1 (insertionSort_holds swoN d a z hazz (by have := HB.out; have := HK.out.2.2.1; omega)).2)
      clear hl hazz hzz h12
      go_wp2_with (first
        | (go_at_call 125; refine HI.out.mono ?_; rintro r1 w1 ⟨rfl, hw1⟩; have S1 := hid (HK.out.2.2.2.1.next hw1); clear hw1))
      (try simp only [Exit.inBlock, Exit.then]); refine bodyPost_ret (results_none rfl _ _ _) rfl ?_
      exact ⟨rfl, _, S1.out, HF.out⟩
    have d12 : decide ((l : Int) ≤ 12) = false := by simp; omega
    have d12n : decide (l ≤ 12) = false := by simp; omega
    have HL := hid (show 12 < l ∧ l = z - a ∧ a + 12 < z ∧ z ≤ n ∧ a0 ≤ a ∧ z ≤ z0 by have := HB.out; have := HK.out.2.2.2.2.ha; omega)
    by_cases hl0 : lim = 0
    · subst hl0
      have HI := hid (HHP.out wr a z d HK.out.2.2.2.1 (by have := HL.out; omega) HL.out.2.2.2.1 HK.out.2.2.1)
      have HF := hid (HK.out.2.2.2.2.end_ HB.out.2.2.1 (heapSort_holds swoN d a z hazz (by have := HB.out; have := HK.out.2.2.1; omega)).1 (heapSort_holds swoN d a z hazz (by have := HB.out; have := HK.out.2.2.1; omega)).2)
      clear hl hazz hzz h12
      go_wp2_with (first
        | (go_at_call 126; refine HI.out.mono ?_; rintro r1 w1 ⟨rfl, hw1⟩; have S1 := hid (HK.out.2.2.2.1.next hw1); clear hw1))
      (try simp only [Exit.inBlock, Exit.then]); refine bodyPost_ret (results_none rfl _ _ _) rfl ?_
      exact ⟨rfl, _, S1.out, HF.out⟩
    have dl0 : ((lim : Int) == 0) = false := by simp; omega
    have dl0d : decide ((lim : Int) = 0) = false := by simp; omega
    have dl0n : decide (lim = 0) = false := by simp; omega
    obtain ⟨lim1, hlim1⟩ : ∃ m, m = lim - 1 := ⟨_, rfl⟩
    have elim : (lim : Int) - 1 = (lim1 : Int) := by omega
    have ewlim : IntKind.i64.wrap (lim1 : Int) = (lim1 : Int) := by rw [IntKind.wrap_i64] <;> have := HK.out.2.1 <;> omega
    have HL1 := hid (show lim1 ≤ 1000 by have := HK.out.2.1; omega)
    clear hl hazz hzz h12 hl0 hlim1
    go_upto_if 35 with (fail)
    go_cut [3] from 19 to 133 (fun s3 wx => ∃ (limb : Nat) (db : Array Nat), s3 = .int .i64 (limb : Int) ∧ Hid (limb ≤ 1000 ∧ db.size = n ∧ Sw W g sp db wx ∧ Pq a0 z0 d0 a z db))
    case first =>
      cases wb with
      | true =>
        go_wp2
        go_meet
        case rel => exact ⟨lim, d, rfl, hid ⟨HK.out.2.1, HK.out.2.2⟩⟩
      | false =>
        have HI := hid (HBR.out wr a z d HK.out.2.2.2.1 HL.out.2.2.1 HL.out.2.2.2.1 HK.out.2.2.1)
        go_wp2_with (first
          | (go_at_call 127; refine HI.out.mono ?_; rintro r1 w1 ⟨rfl, d', hw1, hp1⟩; have S1 := hid (HK.out.2.2.2.1.next hw1); have P1 := hid hp1; clear hw1 hp1))
        go_meet
        case rel => exact ⟨lim1, d', rfl, hid ⟨HL1.out, by rw [P1.out.1]; exact HK.out.2.2.1, S1.out, HK.out.2.2.2.2.perm_ HB.out.2.2.1 P1.out⟩⟩
    case rest =>
      obtain ⟨limb, db, rfl, HC1⟩ := hcut
      have HI := hid (HPV.out wc a z db HC1.out.2.2.1 HL.out.2.2.1 HL.out.2.2.2.1 HC1.out.2.1)
      have HK0 := hid HK.out.1
      have HLB := hid HC1.out.1
      clear dl0 dl0d dl0n elim ewlim HK HL1
      go_upto_if 50 with (first
        | (go_at_call 128; refine HI.out.mono ?_; rintro r1 w1 ⟨p, t, rfl, hp1, ht1, hw1⟩; have S1 := hid (HC1.out.2.2.1.next hw1); have P1 := hid hp1; clear hw1 hp1))
      go_cut [11, 12] from 19 to 133 (fun s11 s12 wx => ∃ (pv tv : Nat) (dk : Array Nat), s11 = .int .i64 (pv : Int) ∧ s12 = .int .i64 (tv : Int) ∧ Hid ((a < pv ∧ pv + 1 < z) ∧ dk.size = n ∧ Sw W g sp dk wx ∧ Pq a0 z0 d0 a z dk))
      case first =>
        by_cases h2 : t = 2
        · subst h2
          obtain ⟨z1, hz1⟩ : ∃ m, m = z - 1 := ⟨_, rfl⟩
          have ez1 : (z : Int) - 1 = (z1 : Int) := by have := HL.out; omega
          have ewz1 : IntKind.i64.wrap (z1 : Int) = (z1 : Int) := by rw [IntKind.wrap_i64] <;> have := HB.out <;> have := HL.out <;> omega
          obtain ⟨pa, hpa⟩ : ∃ m, m = p - a := ⟨_, rfl⟩
          have epa : (p : Int) - (a : Int) = (pa : Int) := by have := P1.out; omega
          have ewpa : IntKind.i64.wrap (pa : Int) = (pa : Int) := by rw [IntKind.wrap_i64] <;> have := HB.out <;> have := HL.out <;> have := P1.out <;> omega
          obtain ⟨p2, hp2⟩ : ∃ m, m = z1 - pa := ⟨_, rfl⟩
          have ep2 : (z1 : Int) - (pa : Int) = (p2 : Int) := by have := P1.out; have := HL.out; omega
          have ewp2 : IntKind.i64.wrap (p2 : Int) = (p2 : Int) := by rw [IntKind.wrap_i64] <;> have := HB.out <;> have := HL.out <;> have := P1.out <;> omega
          have HPP := hid (show a < p2 ∧ p2 + 1 < z by have := P1.out; have := HL.out; omega)
          have HI2 := hid (HRV.out w1 a z db S1.out (by have := HL.out; omega) HL.out.2.2.2.1 HC1.out.2.1)
          clear hz1 hpa hp2 ht1
          go_wp2_with (first
            | (go_at_call 129; refine HI2.out.mono ?_; rintro r2 w2 ⟨rfl, d2, hw2, hp2⟩; have S2 := hid (S1.out.next hw2); have Q2 := hid hp2; clear hw2 hp2))
          go_meet
          case rel => exact ⟨p2, 1, d2, rfl, rfl, hid ⟨HPP.out, by rw [Q2.out.1]; exact HC1.out.2.1, S2.out, HC1.out.2.2.2.perm_ HB.out.2.2.1 Q2.out⟩⟩
        · have k2 : ((t : Int) == 2) = false := by simp; omega
          have k2d : decide ((t : Int) = 2) = false := by simp; omega
          have k2n : decide (t = 2) = false := by simp; omega
          clear h2 ht1
          go_wp2
          go_meet
          case rel => exact ⟨p, t, db, rfl, rfl, hid ⟨P1.out, HC1.out.2.1, S1.out, HC1.out.2.2.2⟩⟩
      case rest =>
        obtain ⟨pv, tv, dk, rfl, rfl, HC2⟩ := hcut
        clear HI S1 P1 HC1 ht1
        go_upto_region 15 with (fail)
        go_cut [68] from 19 to 133 (fun s68 wx => ∃ f : Bool, s68 = .bool f ∧ Hid (Sw W g sp dk wx))
        case first =>
          have HW := hid HC2.out.2.2.1
          cases wb with
          | false =>
            go_wp2
            go_meet
            case rel => exact ⟨false, rfl, HW⟩
          | true =>
            cases wp with
            | false =>
              go_wp2
              go_meet
              case rel => exact ⟨false, rfl, HW⟩
            | true =>
              go_wp2
              go_meet
              case rel => exact ⟨_, rfl, HW⟩
        case rest =>
          obtain ⟨f, rfl, HW⟩ := hcut
          go_upto_if 68 with (fail)
          go_cut [] from 19 to 133 (fun wx => Hid (Sw W g sp dk wx))
          case first =>
            cases f with
            | false =>
              go_wp2
              go_meet
              case rel => exact HW
            | true =>
              have HI := hid (HPA.out wc a z dk HW.out (by have := HL.out; omega) HL.out.2.2.2.1 HC2.out.2.1)
              go_upto_if 72 with (first
                | (go_at_call 130; refine HI.out.mono ?_; rintro r1 w1 ⟨pf, rfl, hw1, hp1⟩; have S1 := hid (HW.out.next hw1); have P1 := hid hp1; clear hw1 hp1))
              cases pf with
              | true =>
                have HF := hid (HC2.out.2.2.2.end_ HB.out.2.2.1 (permIn_refl _ _ _) (P1.out rfl))
                go_wp2
                (try simp only [Exit.inBlock, Exit.then]); refine bodyPost_ret (results_none rfl _ _ _) rfl ?_
                exact ⟨rfl, _, S1.out, HF.out⟩
              | false =>
                go_wp2
                go_meet
                case rel => exact S1
          case rest =>
            have HW := hid hcut.out
            clear hcut
            go_upto_region 17 with (fail)
            go_cut [87] from 19 to 133 (fun s87 wx => ∃ f : Bool, s87 = .bool f ∧ Hid (Sw W g sp dk wx ∧ (f = true → 0 < a ∧ dk[pv]! ≤ dk[a - 1]!)))
            case first =>
              by_cases ha : 0 < a
              · have d0 : decide ((0 : Int) < (a : Int)) = true := by simp; omega
                have d0n : decide (0 < a) = true := by simpa using ha
                obtain ⟨o, ho⟩ : ∃ o, o = 0 := ⟨_, rfl⟩
                obtain ⟨am, ham⟩ : ∃ m, m = a - 1 := ⟨_, rfl⟩
                have eam : (a : Int) - 1 = (am : Int) := by omega
                have ewam : IntKind.i64.wrap (am : Int) = (am : Int) := by rw [IntKind.wrap_i64] <;> have := HB.out <;> have := HL.out <;> omega
                have h0 : am < dk.size := by have := HC2.out.2.1; have := HB.out; have := HL.out; omega
                have h1 : pv < dk.size := by have := HC2.out.2.1; have := HC2.out.1; have := HB.out; have := HL.out; omega
                have ik0 : (am : Int) < (n : Int) := by have := HC2.out.2.1; omega
                have ik1 : (pv : Int) < (n : Int) := by have := HC2.out.2.1; omega
                have hpk := Sw.pack ho h0 h1 wc HW.out
                obtain ⟨x, hx⟩ : ∃ x, x = dk[am]! := ⟨_, rfl⟩
                obtain ⟨y, hy⟩ : ∃ x, x = dk[pv]! := ⟨_, rfl⟩
                rw [← hx, ← hy, ho, Nat.zero_add, Nat.zero_add] at hpk
                obtain ⟨c0, c1, -, -, -⟩ := hpk
                have HQ := hid (fun (V : World) => sless_any x y V)
                have HA := hid (show 0 < a ∧ (ltN x y = false → dk[pv]! ≤ dk[a - 1]!) from ⟨ha, fun e => by rw [← ham, ← hx, ← hy]; exact ltN_false.1 e⟩)
                have HV := hid HW.out
                clear ha ho ham h0 h1 hx hy
                obtain ⟨fl, hfl⟩ : ∃ b, b = ltN x y := ⟨_, rfl⟩
                rw [← hfl] at HQ HA
                clear hfl
                cases fl with
                | true =>
                  go_wp2
                  go_quiet (first | (go_at_call 111; refine Calls.quiet_of_same (HQ.out _)))
                  have V1 := hid (HV.out.drewN nq)
                  clear c0 c1 HQ
                  go_wp2
                  go_meet
                  case rel => exact ⟨false, rfl, hid ⟨V1.out, fun h => nomatch h⟩⟩
                | false =>
                  go_wp2
                  go_quiet (first | (go_at_call 111; refine Calls.quiet_of_same (HQ.out _)))
                  have V1 := hid (HV.out.drewN nq)
                  clear c0 c1 HQ
                  go_wp2
                  go_meet
                  case rel => exact ⟨true, rfl, hid ⟨V1.out, fun _ => ⟨HA.out.1, HA.out.2 trivial⟩⟩⟩
              · have d0 : decide ((0 : Int) < (a : Int)) = false := by simp; omega
                have d0n : decide (0 < a) = false := by simpa using ha
                have HV := hid HW.out
                clear ha
                go_wp2
                go_quiet (fail)
                have V1 := hid (HV.out.drewN nq)
                go_wp2
                go_meet
                case rel => exact ⟨false, rfl, hid ⟨V1.out, fun h => nomatch h⟩⟩
            case rest =>
              obtain ⟨f, rfl, HF⟩ := hcut
              clear HW
              cases f with
              | true =>
                have HI := hid (HPE.out wc a z pv dk HF.out.1 HC2.out.1.1 (by have := HC2.out.1.2; omega) HL.out.2.2.2.1 HC2.out.2.1)
                go_wp2_with (first
                  | (go_at_call 131; refine HI.out.mono ?_; rintro r1 w1 ⟨m, d1, rfl, hw1, hq1⟩; have S1 := hid (HF.out.1.next hw1); have Q1 := hid hq1; clear hw1 hq1))
                go_roundg (z - m)
                case measure => have := Q1.out.1; have := HL.out; have := HK0.out; omega
                case rel =>
                  obtain ⟨q1, q2, q3, q4, q5⟩ := Q1.out
                  obtain ⟨u1, u2⟩ := HF.out.2 (by trivial)
                  exact ⟨m, z, limb, wb, wp, d1, rfl, rfl, rfl, rfl, rfl, hid ⟨Nat.le_refl _, HLB.out, by rw [q3.1]; exact HC2.out.2.1, S1.out, HC2.out.2.2.2.equal HB.out.2.2.1 q3 q1 q2 q4 q5 (HC2.out.2.2.2.least u1 u2)⟩⟩
              | false =>
                have HI := hid (HPT.out wc a z pv dk HF.out.1 HC2.out.1.1 (by have := HC2.out.1.2; omega) HL.out.2.2.2.1 HC2.out.2.1)
                go_upto_region 21 with (first
                  | (go_at_call 132; refine HI.out.mono ?_; rintro r1 w1 ⟨m, ap, d1, rfl, hw1, hq1⟩; have S1 := hid (HF.out.1.next hw1); have Q1 := hid hq1; clear hw1 hq1))
                obtain ⟨q1, q2, q3, q4, q5⟩ := Q1.out
                obtain ⟨lf, hlf⟩ : ∃ x, x = m - a := ⟨_, rfl⟩
                have elf : (m : Int) - (a : Int) = (lf : Int) := by omega
                have ewlf : IntKind.i64.wrap (lf : Int) = (lf : Int) := by rw [IntKind.wrap_i64] <;> have := HB.out <;> have := HL.out <;> omega
                obtain ⟨rt, hrt⟩ : ∃ x, x = z - m := ⟨_, rfl⟩
                have ert : (z : Int) - (m : Int) = (rt : Int) := by omega
                have ewrt : IntKind.i64.wrap (rt : Int) = (rt : Int) := by rw [IntKind.wrap_i64] <;> have := HB.out <;> have := HL.out <;> omega
                obtain ⟨l8, hl8⟩ : ∃ x, x = l / 8 := ⟨_, rfl⟩
                have el8 : (l : Int).tdiv 8 = (l8 : Int) := by rw [hl8]; exact (Int.ofNat_tdiv l 8).symm
                have ewl8 : IntKind.i64.wrap (l8 : Int) = (l8 : Int) := by rw [IntKind.wrap_i64] <;> have := HB.out <;> have := HL.out <;> omega
                obtain ⟨m1, hm1⟩ : ∃ x, x = m + 1 := ⟨_, rfl⟩
                have em1 : (m : Int) + 1 = (m1 : Int) := by omega
                have ewm1 : IntKind.i64.wrap (m1 : Int) = (m1 : Int) := by rw [IntKind.wrap_i64] <;> have := HB.out <;> have := HL.out <;> omega
                have hsz1 : d1.size = n := by rw [q3.1]; exact HC2.out.2.1
                by_cases hlr : lf < rt
                · have dlr : decide ((lf : Int) < (rt : Int)) = true := by simp; omega
                  have dlrn : decide (lf < rt) = true := by simpa using hlr
                  obtain ⟨wb2, hwb⟩ : ∃ b, b = decide (l8 ≤ lf) := ⟨_, rfl⟩
                  have ewb : decide ((l8 : Int) ≤ (lf : Int)) = wb2 := by rw [hwb]; simp
                  have ewbn := hwb.symm
                  have HI2 := hid (HIH.out w1 a m limb d1 S1.out (by have := HNN.out; have := HL.out; omega) q1 (by have := HL.out; omega) HLB.out hsz1 (HC2.out.2.2.2.belowL HB.out.2.2.1 q2 q3))
                  have HPN := hid (fun (d2 : Array Nat) (hp : PermIn a m d1 d2) (hs : SortedIn ltN a m d2) => show d2.size = n ∧ Pq a0 z0 d0 m1 z d2 by
                    rw [hm1]
                    exact ⟨by rw [hp.1]; exact hsz1, HC2.out.2.2.2.left HB.out.2.2.1 q1 q2 q3 q4 q5 hp hs⟩)
                  have HMS := hid (show z - m1 < l by have := HL.out; omega)
                  clear hlr hwb hlf hrt hl8 hm1 q1 q2 q3 q4 q5 hsz1 HI Q1
                  go_wp2_with (first
                    | (go_at_call 116; refine HI2.out.mono ?_; rintro r2 w2 ⟨rfl, d2, hw2, hp2, hs2⟩; have S2 := hid (S1.out.next hw2); have P2 := hid (HPN.out d2 hp2 hs2); clear hw2 hp2 hs2))
                  go_roundg (z - m1)
                  case measure => have := HMS.out; have := HL.out; have := HK0.out; omega
                  case rel => exact ⟨m1, z, limb, wb2, ap, d2, rfl, rfl, rfl, rfl, rfl, hid ⟨Nat.le_refl _, HLB.out, P2.out.1, S2.out, P2.out.2⟩⟩
                · have dlr : decide ((lf : Int) < (rt : Int)) = false := by simp; omega
                  have dlrn : decide (lf < rt) = false := by simpa using hlr
                  obtain ⟨wb2, hwb⟩ : ∃ b, b = decide (l8 ≤ rt) := ⟨_, rfl⟩
                  have ewb : decide ((l8 : Int) ≤ (rt : Int)) = wb2 := by rw [hwb]; simp
                  have ewbn := hwb.symm
                  have HI2 := hid (HIH.out w1 m1 z limb d1 S1.out (by have := HNN.out; have := HL.out; omega) (by omega) HL.out.2.2.2.1 HLB.out hsz1 (by rw [hm1]; exact belowR q5))
                  have HPN := hid (fun (d2 : Array Nat) (hp : PermIn m1 z d1 d2) (hs : SortedIn ltN m1 z d2) => show d2.size = n ∧ Pq a0 z0 d0 a m d2 by
                    rw [hm1] at hp hs
                    exact ⟨by rw [hp.1]; exact hsz1, HC2.out.2.2.2.right HB.out.2.2.1 q1 q2 q3 q4 q5 hp hs⟩)
                  have HMS := hid (show m - a < l by have := HL.out; omega)
                  clear hlr hwb hlf hrt hl8 hm1 q1 q2 q3 q4 q5 hsz1 HI Q1
                  go_wp2_with (first
                    | (go_at_call 116; refine HI2.out.mono ?_; rintro r2 w2 ⟨rfl, d2, hw2, hp2, hs2⟩; have S2 := hid (S1.out.next hw2); have P2 := hid (HPN.out d2 hp2 hs2); clear hw2 hp2 hs2))
                  go_roundg (m - a)
                  case measure => have := HMS.out; have := HL.out; have := HK0.out; omega
                  case rel => exact ⟨a, m, limb, wb2, ap, d2, rfl, rfl, rfl, rfl, rfl, hid ⟨Nat.le_refl _, HLB.out, P2.out.1, S2.out, P2.out.2⟩⟩
theorem pdq_any (g c n : Nat) (sp : Array Value) (hs : n ≤ 40) (N : Nat) : PdqC g c n sp N := by
  induction N using Nat.strongRecOn with
  | ind N ih => exact pdq_step g c n sp hs N ih
end Go.Proofs.YthkbmpocfpbkoaaDoor

namespace Go.Proofs.YthkbmpocfpbkoaaDoor
open Go.RowKit Go.Sort

set_option maxRecDepth 100000 in
theorem insertion_nil (W : World) : Calls Tryd.prog 125 #[.slice none 0 0, .int .i64 0, .int .i64 0] W fun e w' => e = .returned (.tuple #[]) ∧ w' = W := by
  go_enter Tryd.func125, Tryd.ntmps125
  go_wp2
  go_loopw [6] (fun vi wr => vi = .int .i64 1 ∧ wr = W) (fun _ _ => 0)
  case atStart => exact ⟨rfl, rfl⟩
  case round =>
    obtain ⟨rfl, hw⟩ := hrel
    rw [hw]
    clear hw
    go_wp2
    go_end0
    exact ⟨rfl, rfl⟩
set_option maxRecDepth 100000 in
theorem pdq_nil (k : Nat) (W : World) : Calls Tryd.prog 116 #[.slice none 0 0, .int .i64 0, .int .i64 0, .int .i64 (k : Int)] W fun e w' => e = .returned (.tuple #[]) ∧ w' = W := by
  have HI := hid (insertion_nil W)
  go_enter Tryd.func116, Tryd.ntmps116
  go_wp2
  go_loopw [1, 2, 3, 8, 9] (fun v1 v2 _ _ _ wr => v1 = .int .i64 0 ∧ v2 = .int .i64 0 ∧ wr = W) (fun _ _ _ _ _ _ => 0)
  case atStart => exact ⟨rfl, rfl, rfl⟩
  case round =>
    obtain ⟨rfl, rfl, hw⟩ := hrel
    rw [hw]
    clear hw
    go_wp2_with (first
      | (go_at_call 125; refine HI.out.mono ?_; rintro r1 w1 ⟨rfl, hw1⟩; rw [hw1]; clear hw1))
    (try simp only [Exit.inBlock, Exit.then]); refine bodyPost_ret (results_none rfl _ _ _) rfl ?_
    exact ⟨rfl, rfl⟩
set_option maxRecDepth 100000 in
theorem psort_nil (W : World) : Calls Tryd.prog 103 #[.slice none 0 0] W fun e w' => e = .returned (.tuple #[]) ∧ w' = W := by
  have HL := hid (plen_any 0 W (by omega))
  have HP := hid (fun k => pdq_nil k W)
  go_enter Tryd.func103, Tryd.ntmps103
  go_wp2_with (first
    | (go_at_call 117; refine HL.out.mono ?_; rintro r1 w1 ⟨rfl, hw1⟩; rw [hw1]; clear hw1)
    | (go_at_call 116; refine (HP.out _).mono ?_; rintro r1 w1 ⟨rfl, hw1⟩; rw [hw1]; clear hw1))
  go_end0
  exact ⟨rfl, rfl⟩
set_option maxRecDepth 100000 in
theorem psort_any (g c n : Nat) (d : Array Nat) (sp : Array Value) (W : World) (h : At W g (cel d sp) 33) (hn : d.size = n) (hs : n ≤ 40) :
    Calls Tryd.prog 103 #[.slice (some ⟨g, 0, none⟩) n c] W fun e w' => e = .returned (.tuple #[]) ∧ ∃ d', Sw W g sp d' w' ∧ d'.toList = d.toList.mergeSort (fun x y => decide (x ≤ y)) := by
  have HL := hid (plen_any n W (by omega))
  obtain ⟨h1, h2, -⟩ := highN_spec (b := n + 1) (by omega)
  obtain ⟨m, hm⟩ : ∃ m, m = highN (n + 1) := ⟨_, rfl⟩
  rw [← hm] at HL
  have HP := hid (pdq_any g c n sp hs n 0 n m d W (by omega) (by omega) (Nat.le_refl _) (by omega) hn (.inl rfl) h)
  have HS := hid (fun (d' : Array Nat) (hp : PermIn 0 n d d') (hs : SortedIn ltN 0 n d') => show d'.toList = d.toList.mergeSort (fun x y => decide (x ≤ y)) by
    subst hn
    exact sorted_one hp hs)
  have uw : IntKind.u64.wrap (n : Int) = (n : Int) := by rw [IntKind.wrap_u64]; omega
  clear h1 h2 hm h hn hs
  go_enter Tryd.func103, Tryd.ntmps103
  go_wp2_with (first
    | (go_at_call 117; refine HL.out.mono ?_; rintro r1 w1 ⟨rfl, hw1⟩; rw [hw1]; clear hw1)
    | (go_at_call 116; refine HP.out.mono ?_; rintro r1 w1 ⟨rfl, d', hw1, hp1, hs1⟩))
  go_end0
  exact ⟨rfl, d', hw1, HS.out d' hp1 hs1⟩
end Go.Proofs.YthkbmpocfpbkoaaDoor

namespace Go.Proofs.YthkbmpocfpbkoaaDoor
open Go.RowKit Go.Sort Go.Shelf

attribute [local go_sem] Oper.semAt_some

/-- Whatever lies below block B lies as it lay. -/
structure LowK (B : Nat) (X Y : World) : Prop where
  size : X.heap.size ≤ Y.heap.size
  same : ∀ k, k < B → Y.heap[k]? = X.heap[k]?
theorem LowK.trans {B : Nat} {X Y Z : World} (h : LowK B X Y) (k : LowK B Y Z) : LowK B X Z := ⟨Nat.le_trans h.size k.size, fun i hi => (k.same i hi).trans (h.same i hi)⟩
theorem LowK.putObj {B : Nat} (W : World) (l : Nat) (o : Obj) (hl : B ≤ l) : LowK B W (W.putObj l o) := ⟨(grownBy_putObj' W l o).size, fun k hk => World.putObj_heap_other (by omega)⟩
theorem LowK.rd {B : Nat} {X Y : World} {A : Option Addr} {xs : List Value} (h : Rd X B A xs) (k : LowK B X Y) : Rd Y B A xs := fun hx => by
  obtain ⟨b, o, e, hb, hc⟩ := h hx
  exact ⟨b, o, e, hb, fun j u hu => (World.cell?_of_block (w := X) (a := ⟨b, o + j, none⟩) (k.same b hb)).trans (hc j u hu)⟩
set_option maxRecDepth 100000 in
theorem values_any (A : Option Addr) (n c : Nat) (w : World) :
    Calls Tryd.prog 84 #[.slice A n c] w fun e w' => e = .returned (.func (.func 104) #[] #[.pointer (some ⟨w.heap.size, 0, none⟩)]) ∧ w.alloc (.cells #[.slice A n c] 73) = w' := by
  go_enter Tryd.func84, Tryd.ntmps84
  go_wp2
  go_ret
  exact ⟨rfl, rfl⟩
/-- A number as it is handed to the body. -/
def encN (L : List Nat) (x : Fin L.length) : Array Value := #[.int .u64 ((L[x.val] : Nat) : Int)]
set_option maxRecDepth 100000 in
set_option maxHeartbeats 2000000 in
theorem values1_in (n l Bn B : Nat) (L : List Nat) (A : Option Addr) (c : Nat) (hlen : L.length ≤ 1000000) (J Jx : List (Fin L.length) → World → Prop) (W : World)
    (hY : ∀ pre x W1, J pre W1 → pre.length < L.length → YieldAt Fence.wide (n - 1) Tryd.prog l (encN L x) W1 fun e W' =>
      (e = .returned (.bool true) ∧ J (pre ++ [x]) W' ∧ LowK B W1 W') ∨ (e = .returned (.bool false) ∧ Jx (pre ++ [x]) W'))
    (hBn : W.cell? ⟨Bn, 0, none⟩ = some (.slice A L.length c)) (hr : Nu W B A L) (h0 : J [] W) :
    CallsIn Fence.wide n Tryd.prog 104 #[.func (.yield l) #[] #[], .pointer (some ⟨Bn, 0, none⟩)] W fun e W' => (∃ v, e = .returned v) ∧
      ((∃ xs : List (Fin L.length), xs.map Fin.val = List.range L.length ∧ J xs W') ∨ (∃ pre : List (Fin L.length), True ∧ Jx pre W')) := by
  obtain ⟨m, hm⟩ : ∃ m, m = L.length := ⟨_, rfl⟩
  have HR := hid hr
  have HY := hid hY
  have H0 := hid h0
  have HM := hid hm
  have HLN := hid (show m ≤ 1000000 by omega)
  rw [← hm] at hBn
  clear hr hY h0 hm hlen
  refine callsIn_of_wp Tryd.func104 rfl trivial ?_ rfl
  simp only [Tryd.ntmps104, List.size_toArray, List.length_cons, List.length_nil, Nat.reduceAdd, Nat.reduceSub, Array.replicate_succ, Array.replicate_zero, List.push_toArray, List.append_toArray, List.nil_append, List.cons_append]
  gi_wp2
  gi_loopw [7] (fun v wr => ∃ (k : Nat) (pre : List (Fin L.length)), v = .int .i64 (k : Int) ∧ k ≤ m ∧ Hid (pre.map Fin.val = List.range k ∧ J pre wr ∧ Nu wr B A L)) (fun v _ => m - (intOf v).toNat)
  case atStart => exact ⟨0, [], rfl, by omega, hid ⟨rfl, H0.out, HR.out⟩⟩
  case round =>
    obtain ⟨k, pre, rfl, hk, HK⟩ := hrel
    by_cases hlt : k < m
    · have d1 : decide ((k : Int) < (m : Int)) = true := by simp; omega
      have ik : (k : Int) < (m : Int) := by omega
      have hkl : k < L.length := by rw [← HM.out]; exact hlt
      obtain ⟨g, o, rfl, -, c0⟩ := HK.out.2.2.at hkl
      have hlenp : pre.length = k := by have := congrArg List.length HK.out.1; simpa using this
      obtain ⟨fn, tmps, assign, body, hy, hR⟩ := HY.out pre ⟨k, hkl⟩ wr HK.out.2.1 (by omega)
      simp only [encN] at hy
      obtain ⟨x, hx⟩ : ∃ x, x = L[k] := ⟨_, rfl⟩
      rw [← hx] at c0 hy
      obtain ⟨q, hq⟩ : ∃ q, q = o + k := ⟨_, rfl⟩
      rw [← hq] at c0
      have eq := hq.symm
      obtain ⟨k1, hk1⟩ : ∃ x, x = k + 1 := ⟨_, rfl⟩
      have e2 : (k : Int) + 1 = (k1 : Int) := by omega
      have ew2 : IntKind.i64.wrap (k1 : Int) = (k1 : Int) := by rw [IntKind.wrap_i64] <;> have := HLN.out <;> omega
      have HP3 := hid (show (pre ++ [(⟨k, hkl⟩ : Fin L.length)]).map Fin.val = List.range k1 by rw [List.map_append, HK.out.1, hk1, List.range_succ]; rfl)
      have HMS := hid (show k1 ≤ m ∧ m - k1 < m - k by omega)
      have HN := hid HK.out.2.2
      clear hx hq hk1 hlenp hlt hk HK
      gi_wp2
      refine ⟨(fun h => by cases h), hR.mono ?_⟩
      clear hR hy
      rintro e W3 (⟨rfl, hJ3, hK3⟩ | ⟨rfl, hx3⟩)
      · have HJ3 := hid (show (pre ++ [(⟨k, hkl⟩ : Fin L.length)]).map Fin.val = List.range k1 ∧ J (pre ++ [(⟨k, hkl⟩ : Fin L.length)]) W3 ∧ Nu W3 B (some ⟨g, o, none⟩) L from ⟨HP3.out, hJ3, LowK.rd HN.out hK3⟩)
        clear hJ3 hK3 c0
        gi_wp2
        go_roundw
        case rel => exact ⟨k1, _, rfl, HMS.out.1, HJ3⟩
        case measure =>
          show m - ((k1 : Int)).toNat < m - ((k : Int)).toNat
          rw [Int.toNat_natCast, Int.toNat_natCast]
          exact HMS.out.2
      · gi_wp2
        refine bodyPost_ret (results_none rfl _ _ _) rfl ?_
        exact ⟨⟨_, rfl⟩, .inr ⟨_, trivial, hx3⟩⟩
    · obtain rfl : k = m := by omega
      have d1 : decide ((k : Int) < (k : Int)) = false := by simp
      have HE := hid (show pre.map Fin.val = List.range L.length ∧ J pre wr from ⟨by rw [HK.out.1, HM.out], HK.out.2.1⟩)
      clear HY hlt hk HK
      gi_wp2
      go_end0
      exact ⟨⟨_, rfl⟩, .inl ⟨pre, HE.out⟩⟩
theorem values_stops (n Bn B : Nat) (L : List Nat) (A : Option Addr) (c : Nat) (hlen : L.length ≤ 1000000) (w : World) (hB : B ≤ w.heap.size) (hBn : Bn < w.heap.size) (hc : w.cell? ⟨Bn, 0, none⟩ = some (.slice A L.length c)) (hr : Nu w B A L) :
    SeqStopsK Fence.wide n Tryd.prog 104 #[.pointer (some ⟨Bn, 0, none⟩)] (encN L) (LowK B) (fun xs => xs.map Fin.val = List.range L.length) (fun _ => True) L.length w := fun l J Jx W hW _ _ hY h0 =>
  values1_in n l Bn B L A c hlen J Jx W hY ((hW.cell (p := ⟨Bn, 0, none⟩) hBn).trans hc) (Rd.below hr (hW.mono hB)) h0
/-- The numbers that have come. -/
def valsN (L : List Nat) (xs : List (Fin L.length)) : List Nat := xs.map fun x => L[x.val]
theorem valsN_snoc (L : List Nat) (xs : List (Fin L.length)) (x : Fin L.length) : valsN L (xs ++ [x]) = valsN L xs ++ [L[x.val]] := by simp [valsN]
theorem valsN_length (L : List Nat) (xs : List (Fin L.length)) : (valsN L xs).length = xs.length := by simp [valsN]
theorem valsN_all (L : List Nat) (xs : List (Fin L.length)) (h : xs.map Fin.val = List.range L.length) : valsN L xs = L := by
  have hl : xs.length = L.length := by simpa using congrArg List.length h
  refine List.ext_getElem (by rw [valsN_length, hl]) fun i h1 h2 => ?_
  simp only [valsN, List.getElem_map]
  have h3 : i < xs.length := by rw [valsN_length] at h1; exact h1
  have h4 : (xs.map Fin.val)[i]'(by simpa using h3) = i := by simp [h]
  simp only [List.getElem_map] at h4
  simp only [h4]
/-- What holds between the rounds: the slice in its cell, whose row is the call's own. -/
def ApI (W0 : World) (L : List Nat) (pre : List (Fin L.length)) (V : World) : Prop := (∃ v, At V W0.heap.size #[v] 73 ∧ Aun V W0.heap.size v (valsN L pre)) ∧ Below W0.heap.size W0 V
theorem Aun.other {V V' : World} {base : Nat} {v : Value} {M : List Nat} {row : Option Nat} (h : Aun V base v M) (hg : V.grownBy V' row) (hr : ∀ r, row = some r → ∃ o : Obj, V.heap[r]? = some o ∧ o.isCells = false) : Aun V' base v M := by
  refine ⟨h.1, ?_⟩
  rcases h.2 with h | ⟨g, cap, cur, rfl, hb, hh, r⟩
  · exact .inl h
  · exact .inr ⟨g, cap, cur, rfl, hb, (at_own g _ (fun (_ : Unit) => cur)) () V V' row hh hg hr, r⟩
theorem ApI.own (W0 : World) (L : List Nat) (B : Nat) (hB : W0.heap.size ≤ B) : OwnFrom B (ApI W0 L) := fun pre V V' row hs hg hr => by
  obtain ⟨⟨v, h1, h2⟩, h3⟩ := hs
  refine ⟨⟨v, (at_own _ _ (fun (_ : Unit) => #[v])) () V V' row h1 hg (fun r e => (hr r e).2), ?_⟩, h3.trans ?_⟩
  · exact h2.other hg (fun r e => (hr r e).2)
  · exact (Below.refl _ V).grown hg h3.size (fun k hk => by have := (hr k hk).1; omega)
theorem ApI.more {W' : World} {base : Nat} {v : Value} {M : List Nat} {y : Nat} (h : W'.ownsRow base 33 1 v (M.length + 1) (nus M ++ [Value.int .u64 (y : Int)])) : Aun W' base v (M ++ [y]) := by
  unfold Aun
  rw [nus_append, List.length_append]
  exact h
theorem Aun.cells {W : World} {base : Nat} {v : Value} {M : List Nat} (h : Aun W base v M) (k : Nat) (e : v.ownBlock = some k) : ∃ cs t fr, W.heap[k]? = some (.cells cs t fr) := by
  rcases h.2 with ⟨rfl, -⟩ | ⟨g, cap, cur, rfl, -, hh, -⟩
  · cases e
  · cases e
    exact ⟨_, _, _, hh⟩
theorem keeps_row {W W' : World} {row : Option Nat} (hg : W.grownBy W' row) (hc : ∀ k, row = some k → ∃ cs t fr, W.heap[k]? = some (.cells cs t fr)) (B : Nat) : KeepsFrom B W W' :=
  ⟨hg.size, fun k o _ hk ho => (hg.block k (Array.getElem?_eq_some_iff.1 hk).1 (fun e => by
    obtain ⟨cs, t, fr, h⟩ := hc k e.symm
    rw [h] at hk
    cases hk
    cases ho)).trans hk⟩
set_option maxRecDepth 100000 in
set_option maxHeartbeats 2000000 in
theorem appendSeq_any (Bn B c : Nat) (L : List Nat) (A : Option Addr) (w : World) (hlen : L.length ≤ 1000000) (hB : B ≤ w.heap.size) (hBn : Bn < w.heap.size) (hc : w.cell? ⟨Bn, 0, none⟩ = some (.slice A L.length c)) (hr : Nu w B A L) :
    Calls Tryd.prog 115 #[.slice none 0 0, .func (.func 104) #[] #[.pointer (some ⟨Bn, 0, none⟩)]] w fun e w' => ∃ v, e = .returned v ∧ Aun w' w.heap.size v L ∧ Below w.heap.size w w' := by
  obtain ⟨W0, hW0⟩ : ∃ W0, W0 = w.alloc (.cells #[.slice none 0 0] 73) := ⟨_, rfl⟩
  have hb0 : Below w.heap.size w W0 := by rw [hW0]; exact (Below.refl _ _).alloc (Nat.le_refl _) _
  have hI0 : ApI w L [] W0 := ⟨⟨.slice none 0 0, by rw [hW0]; exact At.new _ _ _, Aun.nil _ _⟩, hb0⟩
  have hsz : W0.heap.size = w.heap.size + 1 := by rw [hW0]; simp
  have HSQ := hid (values_stops (6 - 1) Bn B L A c hlen W0 (by omega) (by omega) ((hb0.cell (p := ⟨Bn, 0, none⟩) hBn).trans hc) (Rd.below hr (hb0.mono hB)))
  have HI0 := hid hI0
  have HBW := hid (show B ≤ w.heap.size ∧ W0.heap.size = w.heap.size + 1 from ⟨hB, hsz⟩)
  have HLN := hid hlen
  clear hlen hB hBn hc hr hI0 hsz hb0
  refine (callsIn_wide (n := 6)).1 ?_
  refine callsIn_of_wp_marks Tryd.func115 rfl trivial ?_ rfl
  refine wpIn_wide.2 ?_
  simp only [Tryd.ntmps115, List.size_toArray, List.length_cons, List.length_nil, Nat.reduceAdd, Nat.reduceSub, Array.replicate_succ, Array.replicate_zero, List.push_toArray, List.append_toArray, List.nil_append, List.cons_append]
  go_wp2
  rw [← hW0]
  clear hW0
  refine (wpIn_wide (n := 6)).1 ?_
  refine wpIn_rangeFunc_ownH (F := Fence.wide) (n := 6) rfl (by omega) (gf := 104) (lb := #[.pointer (some ⟨Bn, 0, none⟩)]) rfl trivial (enters_of Tryd.func104 (by kernel_rfl) rfl)
    HSQ.out (fun h k => h.trans k) (fun W l o o' hl _ _ _ => LowK.putObj W l o' (by have := HBW.out; omega)) (Below.refl _ _) (fun _ => rfl)
    (ApI w L) (fun _ _ _ => False) (ApI.own w L _ (by have := HBW.out; omega)) (fun _ _ _ _ _ hs _ _ => hs) HI0.out
    (fun x a' _ => a' = { tmps := #[.slice none 0 0, .func (.func 104) #[] #[.pointer (some ⟨Bn, 0, none⟩)], .pointer (some ⟨w.heap.size, 0, none⟩), undef, .slice none 0 0, .int .u64 ((L[x.val] : Nat) : Int), .func (.func 104) #[] #[.pointer (some ⟨Bn, 0, none⟩)], .int .u64 ((L[x.val] : Nat) : Int), undef, undef, undef, undef, undef], defers := [] })
    (fun x a' _ X Y row hs _ _ => hs) ?assign ?body ?done ?stop
  case assign =>
    rintro l pre x W K hI hK
    have HK := hid (hK _ W (KeepsFrom.refl _ _) ⟨Nat.le_refl _, fun _ _ => rfl⟩ hI rfl)
    clear hK
    simp only [encN]
    gi_wp2
    exact HK.out
  case body =>
    rintro l pre x a' W hl ⟨r, hr⟩ ⟨⟨v, h1, h2⟩, h3⟩ rfl hlt
    obtain ⟨ii, hi, hz, hsz, hby⟩ := infoU_parts
    obtain ⟨A0, c0, rfl⟩ := h2.form
    have cc := h1.cell 0
    have H1 := hid h1
    have H2 := hid h2
    have H3 := hid h3
    have HPL := hid (show (valsN L pre).length < L.length by rw [valsN_length]; exact hlt)
    have HPN := hid (valsN_snoc L pre x)
    obtain ⟨y, hy⟩ : ∃ y, y = L[x.val] := ⟨_, rfl⟩
    rw [← hy] at HPN
    rw [← hy]
    obtain ⟨M, hM⟩ : ∃ M, M = valsN L pre := ⟨_, rfl⟩
    rw [← hM] at HPL HPN H2 cc H1
    obtain ⟨N1, hN1⟩ : ∃ k, k = (M ++ [y]).length := ⟨_, rfl⟩
    have HN1 := hid hN1.symm
    clear hN1
    clear h1 h2 h3 hr hlt hy hM hi hz hsz hby hl
    gi_wp2_with (first
      | (refine wpListIn_append_own (W.alloc (.cells #[.int .u64 (y : Int)] 33)) rfl (.tmp 8) (.tmp 10) 73 rfl w.heap.size 33 _ (.int .u64 0) 1 8 Tryd.underlying73 infoU_parts.choose_spec.1 infoU_parts.choose_spec.2.1 infoU_parts.choose_spec.2.2.1 infoU_parts.choose_spec.2.2.2 rfl (by omega) (.slice A0 M.length c0) M.length (nus M) rfl (H2.out.kept ((Below.refl _ _).alloc (Nat.le_refl _) _)) ⟨W.heap.size, 0, none⟩ 1 1 [.int .u64 (y : Int)] rfl rfl (fun j u hu => by rw [add_plain]; exact (At.new W #[.int .u64 (y : Int)] 33).cell (0 + j) |>.trans (by rw [Nat.zero_add]; simpa using hu)) (by simp [Value.oneCell']) (by have := HPL.out; have := HLN.out; unfold maxLen; omega) (by have := HPL.out; have := HLN.out; omega) (by have := H3.out.size; simp; omega) ?_; intro v1 w1 hown hgr _; have ha1 := hid (ApI.more hown); obtain ⟨A1, c1, e1⟩ := ha1.out.form; rw [HN1.out] at e1; subst e1; have H4 := hid (at_grown (H1.out.alloc (.cells #[.int .u64 (y : Int)] 33)) (H2.out.kept ((Below.refl _ _).alloc (Nat.le_refl _) _)) (by decide) hgr); have cc1 := H4.out.cell 0; have ff1 := H4.out.frozen 0; have HGR := hid hgr; clear hgr hown cc))
    have hb1 : Below w.heap.size W w1 := (((Below.refl w.heap.size W).alloc H3.out.size _).grown HGR.out (by have := H3.out.size; simp; omega) (fun k hk => (H2.out.lt k hk).1))
    have HZ := hid (hb1.setCell (p := ⟨w.heap.size, 0, none⟩) (Nat.le_refl _) (.slice A1 N1 c1))
    have hne := own_ne_at (t := 73) ha1.out H4.out (by decide)
    refine ⟨?_, ⟨HZ.out.size, fun k hk => HZ.out.block k (by have := HBW.out; omega)⟩, ⟨⟨_, H4.out.put 0 _, ?_⟩, H3.out.trans HZ.out⟩⟩
    · exact ((keeps_row (World.grownBy_alloc W _ none) (fun k e => nomatch e) _).trans (keeps_row HGR.out (fun k e => (H2.out.kept ((Below.refl _ _).alloc (Nat.le_refl _) _)).cells k e) _)).trans (keeps_row (grownBy_setCell' w1 w.heap.size _) (fun k e => by cases e; exact ⟨_, _, _, H4.out⟩) _)
    · rw [HPN.out]
      exact own_far ha1.out hne _
  case done =>
    rintro D xs W hD hxs ⟨⟨v, h1, h2⟩, h3⟩ hK
    rw [valsN_all L xs hxs] at h2
    have cc := h1.cell 0
    have H2 := hid h2
    have H3 := hid h3
    have HKD := hid hK
    clear hxs h1 h2 h3 hK
    go_wp2
    refine ⟨by simp, .inl ⟨_, _, rfl, run_takeDeferred HKD.out, ?_⟩⟩
    have hgr := grownBy_putObj' W D (.deferred none)
    refine ⟨_, results_tmp rfl _ _ _, ⟨v, rfl, ?_, ?_⟩⟩
    · exact H2.out.other hgr (fun k e => by cases e; exact ⟨_, HKD.out, rfl⟩)
    · exact H3.out.grown hgr H3.out.size (fun k e => by cases e; have := HBW.out; omega)
  case stop =>
    rintro D c0 pre W hD _ hF _
    exact hF.elim
end Go.Proofs.YthkbmpocfpbkoaaDoor

namespace Go.Proofs.YthkbmpocfpbkoaaDoor
open Go.RowKit Go.Sort

set_option maxRecDepth 100000 in
theorem collect_any (Bn B c : Nat) (L : List Nat) (A : Option Addr) (w : World) (hlen : L.length ≤ 1000000) (hB : B ≤ w.heap.size) (hBn : Bn < w.heap.size) (hc : w.cell? ⟨Bn, 0, none⟩ = some (.slice A L.length c)) (hr : Nu w B A L) :
    Calls Tryd.prog 102 #[.func (.func 104) #[] #[.pointer (some ⟨Bn, 0, none⟩)]] w fun e w' => ∃ v, e = .returned v ∧ Aun w' w.heap.size v L ∧ Below w.heap.size w w' := by
  have HC := hid (appendSeq_any Bn B c L A w hlen hB hBn hc hr)
  clear hlen hB hBn hc hr
  go_enter Tryd.func102, Tryd.ntmps102
  go_wp2_with (first
    | (go_at_call 115; refine HC.out.mono ?_; rintro r1 w1 ⟨v, rfl, h1, h2⟩))
  go_ret
  exact ⟨v, rfl, h1, h2⟩
theorem enU_list (L : List Nat) : (L.toArray.map enU).toList = nus L := by simp [nus, enU]
/-- A row of the call's own, as the sort wants it. -/
theorem Aun.asCel {W : World} {base : Nat} {v : Value} {L : List Nat} (h : Aun W base v L) : (v = .slice none 0 0 ∧ L = []) ∨ ∃ g cap sp, v = .slice (some ⟨g, 0, none⟩) L.length cap ∧ base ≤ g ∧ At W g (cel L.toArray sp) 33 ∧ L.length ≤ cap ∧ L.length + sp.size = cap := by
  rcases h.2 with ⟨h1, h2⟩ | ⟨g, cap, cur, rfl, hb, hh, hc, -, hs, ht⟩
  · exact .inl ⟨h1, List.eq_nil_of_length_eq_zero h2⟩
  · refine .inr ⟨g, cap, cur.extract L.length cur.size, rfl, hb, ?_, hc, by simp; omega⟩
    have e : cel L.toArray (cur.extract L.length cur.size) = cur := by
      apply Array.ext'
      unfold cel
      rw [Array.toList_append, enU_list, ← ht, Array.toList_extract]
      simp only [Nat.mul_one, List.extract_eq_take_drop]
      rw [List.take_of_length_le (i := cur.size - L.length) (by simp), List.take_append_drop]
    rw [e]
    exact hh
set_option maxRecDepth 100000 in
theorem psorted_any (Bn B c : Nat) (L : List Nat) (A : Option Addr) (w : World) (hlen : L.length ≤ 40) (hB : B ≤ w.heap.size) (hBn : Bn < w.heap.size) (hc : w.cell? ⟨Bn, 0, none⟩ = some (.slice A L.length c)) (hr : Nu w B A L) :
    Calls Tryd.prog 83 #[.func (.func 104) #[] #[.pointer (some ⟨Bn, 0, none⟩)]] w fun e w' => ((e = .returned (.slice none 0 0) ∧ L = []) ∨ ∃ g cap sp d', e = .returned (.slice (some ⟨g, 0, none⟩) L.length cap) ∧ w.heap.size ≤ g ∧ At w' g (cel d' sp) 33 ∧ L.length ≤ cap ∧ L.length + sp.size = cap ∧ Hid (d'.toList = L.mergeSort (fun x y => decide (x ≤ y)))) ∧ Below w.heap.size w w' := by
  have HC := hid (collect_any Bn B c L A w (by omega) hB hBn hc hr)
  have HLN := hid hlen
  have HSN := hid (fun V => psort_nil V)
  clear hlen hB hBn hc hr
  go_enter Tryd.func83, Tryd.ntmps83
  go_upto_region 2 with (first
    | (go_at_call 102; refine HC.out.mono ?_; rintro r1 w1 ⟨v, rfl, h1, h2⟩))
  rcases h1.asCel with ⟨rfl, hL⟩ | ⟨g, cap, sp, rfl, hg, ha, hcap, hsp⟩
  · have HL := hid hL
    clear h1 hL
    go_wp2_with (first
      | (go_at_call 103; refine (HSN.out w1).mono ?_; rintro r2 w2 ⟨rfl, hw⟩; rw [hw]; clear hw))
    go_ret
    exact ⟨.inl ⟨rfl, HL.out⟩, h2⟩
  · have HS := hid (psort_any g cap L.length L.toArray sp w1 ha (by simp) HLN.out)
    have HX := hid (show w.heap.size ≤ g ∧ L.length ≤ cap ∧ L.length + sp.size = cap from ⟨hg, hcap, hsp⟩)
    have HB := hid h2
    clear h1 h2 hg ha hcap hsp
    go_wp2_with (first
      | (go_at_call 103; refine HS.out.mono ?_; rintro r2 w2 ⟨rfl, d', hw, hd⟩))
    go_ret
    exact ⟨.inr ⟨g, cap, sp, d', rfl, HX.out.1, hw.at_, HX.out.2.1, HX.out.2.2, hid (by simpa using hd)⟩, HB.out.trans (hw.fr.below (fun k e => by rw [e]; exact HX.out.1) HB.out.size)⟩
end Go.Proofs.YthkbmpocfpbkoaaDoor

namespace Go.Proofs.YthkbmpocfpbkoaaDoor
open Go.RowKit Go.Sort

/-- The row, and all else as it was. -/
structure Crw (W : World) (B g : Nat) (sp : Array Value) (d : Array Nat) (V : World) : Prop where
  row : At V g (cel d sp) 33
  below : Below B W V
section
variable {W V : World} {B g : Nat} {sp : Array Value} {d : Array Nat}
theorem Crw.drewN (h : Crw W B g sp d V) (q : Nat) : Crw W B g sp d (V.drewN q) := ⟨h.row, below_drewN h.below q⟩
theorem Crw.cell (h : Crw W B g sp d V) {o : Nat} (ho : o = 0) {i : Nat} (hi : i < d.size) : V.cell? ⟨g, o + i, none⟩ = some (.int .u64 ((d[i]! : Nat) : Int)) := by
  rw [ho, Nat.zero_add, h.row.cell, cel_get d sp hi]
theorem Crw.put (h : Crw W B g sp d V) (hg : B ≤ g) {o : Nat} (ho : o = 0) {i : Nat} (x : Nat) (hi : i < d.size) : Crw W B g sp (d.setIfInBounds i x) (V.setCell ⟨g, o + i, none⟩ (.int .u64 (x : Int))) := by
  subst ho
  rw [Nat.zero_add]
  refine ⟨?_, h.below.setCell hg _⟩
  have h1 := h.row.put i (.int .u64 (x : Int))
  rwa [cel_set d sp _ hi] at h1
theorem Crw.nu (h : Crw W B g sp d V) {o : Nat} (ho : o = 0) {m : Nat} {l : List Nat} (hm : m ≤ d.size) (hl : d.toList.take m = l) : Nu V V.heap.size (some ⟨g, o, none⟩) l := fun _ => by
  refine ⟨g, o, rfl, h.row.lt, fun j u hu => ?_⟩
  have hj : j < l.length := by
    rcases Nat.lt_or_ge j l.length with q | q
    · exact q
    · rw [List.getElem?_eq_none (by rw [nus_length]; exact q)] at hu
      cases hu
  have hjd : j < d.size := by
    rw [← hl, List.length_take] at hj
    simp at hj
    omega
  rw [h.cell ho hjd, ← hu]
  unfold nus
  rw [List.getElem?_map, ← hl, List.getElem?_take]
  have hjm : j < m := by
    rw [← hl, List.length_take] at hj
    omega
  rw [if_pos hjm, List.getElem?_eq_getElem (by simpa using hjd), arr_get d hjd]
  rfl
theorem Crw.clear (h : Crw W B g sp d V) (hg : B ≤ g) {o q m : Nat} (ho : o = 0) (hq : m ≤ q) {l : List Nat} (hm : m ≤ d.size) (hl : d.toList.take m = l) (vs : List Value) : Nu (V.setCells g (o + q) vs) (V.setCells g (o + q) vs).heap.size (some ⟨g, o, none⟩) l ∧ Below B W (V.setCells g (o + q) vs) := by
  refine ⟨fun hne => ?_, below_setVals h.below hg _ _⟩
  obtain ⟨g', o', e, hlt, hc⟩ := h.nu ho hm hl hne
  cases e
  refine ⟨g, o, rfl, Nat.lt_of_lt_of_le hlt (below_setVals (Below.refl B V) hg _ _).size, fun j u hu => ?_⟩
  rw [World.cell?_setCells_out]
  · exact hc j u hu
  · intro _ _
    left
    show o + j < o + q
    have hj : j < l.length := by
      rcases Nat.lt_or_ge j l.length with p | p
      · exact p
      · rw [List.getElem?_eq_none (by rw [nus_length]; exact p)] at hu
        cases hu
    rw [← hl, List.length_take] at hj
    omega
end
theorem run_from {g o n c k : Nat} (hk : k ≤ n) (hc : k < c) : ∀ V, (Instr.slice 73 (.slice (some ⟨g, o, none⟩) n c) (some (.int .i64 (k : Int))) none none).run Tryd.prog V = .ok (.slice (some ⟨g, o + k, none⟩) (n - k) (c - k)) V := fun V => by
  obtain ⟨i, hi, hz, hsz, hby⟩ := infoU_parts
  have h1 : ((k : Nat) : Int) ≤ (n : Int) := by omega
  have h2 : (Addr.mk g o none).add (k * i.size) = ⟨g, o + k, none⟩ := by rw [add_plain, hsz]; simp
  have e : ¬ c = k := by omega
  simp [Instr.slice, Instr.sliceBounds, run_underlying Tryd.underlying73, run_sliceBound, sizeOf, typeInfo, hi, h1, h2, e]
theorem run_to {g o n c k : Nat} (hc : k ≤ c) : ∀ V, (Instr.slice 73 (.slice (some ⟨g, o, none⟩) n c) none (some (.int .i64 (k : Int))) none).run Tryd.prog V = .ok (.slice (some ⟨g, o, none⟩) k c) V := fun V => by
  obtain ⟨i, hi, hz, hsz, hby⟩ := infoU_parts
  have h1 : ((k : Nat) : Int) ≤ (c : Int) := by omega
  have h2 : (Addr.mk g o none).add 0 = ⟨g, o, none⟩ := by rw [add_plain]; rfl
  simp [Instr.slice, Instr.sliceBounds, run_underlying Tryd.underlying73, run_sliceBound, sizeOf, typeInfo, hi, h1, h2]
theorem zeroU : ∀ W, (zeroValue 33).run Tryd.prog W = .ok (.int .u64 0) W := fun W => by
  obtain ⟨i, hi, hz, -, -⟩ := infoU_parts
  simp [zeroValue, typeInfo, hi, hz]
set_option maxRecDepth 100000 in
set_option maxHeartbeats 4000000 in
theorem pcompact_any (B g n c : Nat) (d : Array Nat) (sp : Array Value) (W : World) (h : At W g (cel d sp) 33) (hn : d.size = n) (hs : n ≤ 1000000) (hc : n + sp.size = c) (hB : B ≤ g) :
    Calls Tryd.prog 82 #[.slice (some ⟨g, 0, none⟩) n c] W fun e w' => ∃ A1 m c1, e = .returned (.slice A1 m c1) ∧ m ≤ c1 ∧ m = (onceS d.toList).length ∧ Nu w' w'.heap.size A1 (onceS d.toList) ∧ Below B W w' := by
  obtain ⟨o, ho⟩ : ∃ o, o = 0 := ⟨_, rfl⟩
  rw [← ho]
  have HO := hid ho
  have HN := hid hn
  have HST := hid (show Crw W B g sp d W from ⟨h, Below.refl _ _⟩)
  have HB := hid (show n ≤ c ∧ n ≤ 1000000 ∧ B ≤ g from ⟨by omega, hs, hB⟩)
  have HCS := hid hc
  have HALL := hid (fun (V : World) (hV : Crw W B g sp d V) (ha : Allk d n) => show n = (onceS d.toList).length ∧ Nu V V.heap.size (some ⟨g, o, none⟩) (onceS d.toList) ∧ Below B W V by
    rw [← HN.out] at ha
    rw [ha.end_]
    exact ⟨by rw [← HN.out]; simp, hV.nu HO.out (Nat.le_refl _) (by rw [List.take_of_length_le (by simp)]), hV.below⟩)
  have HAS := hid (show 0 < n → Allk d 1 from fun q => Allk.start (by omega))
  have HA0 := hid (show n = 0 → Allk d n from fun q => by rw [q]; rfl)
  by_cases h2 : n < 2
  · have d2 : decide ((n : Int) < 2) = true := by simp; omega
    have d2n : decide (n < 2) = true := by simp; omega
    have HF := hid (HALL.out W HST.out (by
      rcases Nat.eq_zero_or_pos n with q | q
      · exact HA0.out q
      · obtain rfl : n = 1 := by omega
        exact HAS.out q))
    clear h hn ho hs hc hB h2
    go_enter Tryd.func82, Tryd.ntmps82
    go_wp2
    go_ret
    exact ⟨_, n, _, rfl, HB.out.1, HF.out⟩
  have d2 : decide ((n : Int) < 2) = false := by simp; omega
  have d2n : decide (n < 2) = false := by simp; omega
  have H2 := hid (show 2 ≤ n by omega)
  clear h hn ho hs hc hB h2 HA0
  go_enter Tryd.func82, Tryd.ntmps82
  go_wp2
  go_loopw [3] (fun v wr => ∃ k : Nat, v = .int .i64 (k : Int) ∧ 1 ≤ k ∧ k ≤ n ∧ Hid (Allk d k ∧ Crw W B g sp d wr)) (fun v _ => n - (intOf v).toNat)
  case atStart => exact ⟨1, rfl, by omega, by have := H2.out; omega, hid ⟨HAS.out (by have := H2.out; omega), HST.out⟩⟩
  case round =>
    obtain ⟨k, rfl, hk1, hkn, HK⟩ := hrel
    by_cases hlt : k < n
    · have d1 : decide ((k : Int) < (n : Int)) = true := by simp; omega
      have d1n : decide (k < n) = true := by simpa using hlt
      obtain ⟨k0, hk0⟩ : ∃ m, m = k - 1 := ⟨_, rfl⟩
      have e0 : (k : Int) - 1 = (k0 : Int) := by omega
      have ew0 : IntKind.i64.wrap (k0 : Int) = (k0 : Int) := by rw [IntKind.wrap_i64] <;> have := HB.out <;> omega
      have ik : (k : Int) < (n : Int) := by omega
      have ik0 : (k0 : Int) < (n : Int) := by omega
      have hkd : k < d.size := by rw [HN.out]; exact hlt
      have c0 := HK.out.2.cell HO.out hkd
      have c1 := HK.out.2.cell HO.out (show k0 < d.size by omega)
      obtain ⟨x, hx⟩ : ∃ x, x = d[k]! := ⟨_, rfl⟩
      obtain ⟨y, hy⟩ : ∃ x, x = d[k0]! := ⟨_, rfl⟩
      obtain ⟨p0, hp0⟩ : ∃ x, x = o + k := ⟨_, rfl⟩
      obtain ⟨p1, hp1⟩ : ∃ x, x = o + k0 := ⟨_, rfl⟩
      rw [← hx, ← hp0] at c0
      rw [← hy, ← hp1] at c1
      have ep0 := hp0.symm
      have ep1 := hp1.symm
      by_cases hxy : x = y
      · have b0 : ((x : Int) == (y : Int)) = true := by simp; omega
        have b0d : decide ((x : Int) = (y : Int)) = true := by simp; omega
        have b0n : decide (x = y) = true := by simpa using hxy
        have b0b : (x == y) = true := by simpa using hxy
        have hfrom := run_from (g := g) (o := o) (n := n) (c := c) (k := k) (by omega) (by have := HB.out; omega)
        rw [← hp0] at hfrom
        obtain ⟨n2, hn2⟩ : ∃ m, m = n - k := ⟨_, rfl⟩
        obtain ⟨c2, hc2⟩ : ∃ m, m = c - k := ⟨_, rfl⟩
        rw [← hn2, ← hc2] at hfrom
        have HCM := hid (show Cmp d k (k + 1) d from Cmp.start HK.out.1 (by omega) hkd (by rw [← hx, ← hk0, ← hy]; exact hxy))
        have HN2 := hid (show k + n2 = n ∧ 1 ≤ k ∧ p0 = o + k ∧ 1 ≤ n2 by omega)
        have HW := hid HK.out.2
        clear hx hy hp0 hp1 hk0 hxy hkd hn2 hc2 hlt hk1 hkn HK
        go_wp2
        go_quiet (fail)
        have V1 := hid (HW.out.drewN nq)
        clear c0 c1 HW
        generalize wr.drewN nq = W1 at V1 ⊢
        go_wp2
        go_loopw [3, 5] (fun v u wr => ∃ (k1 j : Nat) (dk : Array Nat), v = .int .i64 (k1 : Int) ∧ u = .int .i64 (j : Int) ∧ 1 ≤ j ∧ j ≤ n2 ∧ Hid (Cmp d k1 (k + j) dk ∧ Crw W B g sp dk wr)) (fun _ u _ => n2 - (intOf u).toNat)
        case atStart => exact ⟨k, 1, d, rfl, rfl, by omega, by have := HN2.out; omega, hid ⟨HCM.out, V1.out⟩⟩
        case round =>
          obtain ⟨k1, j, dk, rfl, rfl, hj1, hj2, HJ⟩ := hrel
          have hkq := HJ.out.1.kq
          have hqn := HJ.out.1.qn
          have hdsz := HJ.out.1.size
          by_cases hlt : j < n2
          · have d3 : decide ((j : Int) < (n2 : Int)) = true := by simp; omega
            have d3n : decide (j < n2) = true := by simpa using hlt
            obtain ⟨jm, hjm⟩ : ∃ m, m = j - 1 := ⟨_, rfl⟩
            have em : (j : Int) - 1 = (jm : Int) := by omega
            have ewm : IntKind.i64.wrap (jm : Int) = (jm : Int) := by rw [IntKind.wrap_i64] <;> have := HB.out <;> have := HN2.out <;> omega
            obtain ⟨jp, hjp⟩ : ∃ m, m = j + 1 := ⟨_, rfl⟩
            have ejp : (j : Int) + 1 = (jp : Int) := by omega
            have ewjp : IntKind.i64.wrap (jp : Int) = (jp : Int) := by rw [IntKind.wrap_i64] <;> have := HB.out <;> have := HN2.out <;> omega
            have jk : (j : Int) < (n2 : Int) := by omega
            have jk0 : (jm : Int) < (n2 : Int) := by omega
            have hq : k + j < d.size := by rw [HN.out]; have := HN2.out; omega
            have c0 := HJ.out.2.cell HO.out (show k + j < dk.size by omega)
            have c1 := HJ.out.2.cell HO.out (show k + jm < dk.size by omega)
            rw [HJ.out.1.rest (k + j) (by omega) hq] at c0
            rw [HJ.out.1.rest (k + jm) (by omega) (by omega)] at c1
            obtain ⟨x2, hx2⟩ : ∃ x, x = d[k + j]! := ⟨_, rfl⟩
            obtain ⟨y2, hy2⟩ : ∃ x, x = d[k + jm]! := ⟨_, rfl⟩
            obtain ⟨pj, hpj⟩ : ∃ x, x = p0 + j := ⟨_, rfl⟩
            obtain ⟨pm, hpm⟩ : ∃ x, x = p0 + jm := ⟨_, rfl⟩
            rw [← hx2, show o + (k + j) = pj by have := HN2.out; omega] at c0
            rw [← hy2, show o + (k + jm) = pm by have := HN2.out; omega] at c1
            have epj := hpj.symm
            have epm := hpm.symm
            have hqm : k + j - 1 = k + jm := by omega
            by_cases hxy : x2 = y2
            · have b0 : ((x2 : Int) != (y2 : Int)) = false := by simp; omega
              have b0d : decide ((x2 : Int) = (y2 : Int)) = true := by simp; omega
              have b0n : decide (x2 = y2) = true := by simpa using hxy
              have b0b : (x2 != y2) = false := by simpa using hxy
              have HNX := hid (show Cmp d k1 (k + jp) dk from by rw [hjp, ← Nat.add_assoc]; exact HJ.out.1.same hq (by rw [hqm, ← hx2, ← hy2]; exact hxy))
              have HM := hid (show 1 ≤ jp ∧ jp ≤ n2 ∧ n2 - jp < n2 - j by omega)
              have HW := hid HJ.out.2
              clear hx2 hy2 hpj hpm hjm hjp hq hqm hxy hlt hj1 hj2 hkq hqn hdsz HJ
              go_wp2
              go_quiet (fail)
              have V2 := hid (HW.out.drewN nq)
              clear c0 c1 HW
              generalize wr.drewN nq = W2 at V2 ⊢
              go_wp2
              exact ⟨⟨k1, jp, dk, rfl, rfl, HM.out.1, HM.out.2.1, hid ⟨HNX.out, V2.out⟩⟩, by
                show n2 - ((jp : Int)).toNat < n2 - ((j : Int)).toNat
                rw [Int.toNat_natCast, Int.toNat_natCast]
                exact HM.out.2.2⟩
            · have b0 : ((x2 : Int) != (y2 : Int)) = true := by simp; omega
              have b0d : decide ((x2 : Int) = (y2 : Int)) = false := by simp; omega
              have b0n : decide (x2 = y2) = false := by simpa using hxy
              have b0b : (x2 != y2) = true := by simpa using hxy
              obtain ⟨kp, hkp⟩ : ∃ m, m = k1 + 1 := ⟨_, rfl⟩
              have ekp : (k1 : Int) + 1 = (kp : Int) := by omega
              have ewkp : IntKind.i64.wrap (kp : Int) = (kp : Int) := by rw [IntKind.wrap_i64] <;> have := HB.out <;> have := HN2.out <;> omega
              have ikk : (k1 : Int) < (n : Int) := by have := HN2.out; omega
              have hkd : k1 < dk.size := by omega
              have HNX := hid (show Cmp d kp (k + jp) (dk.setIfInBounds k1 x2) from by rw [hjp, hkp, ← Nat.add_assoc, hx2]; exact HJ.out.1.more hq (by rw [hqm, ← hx2, ← hy2]; exact hxy))
              have HM := hid (show 1 ≤ jp ∧ jp ≤ n2 ∧ n2 - jp < n2 - j by omega)
              obtain ⟨pk, hpk⟩ : ∃ x, x = o + k1 := ⟨_, rfl⟩
              have epk := hpk.symm
              have HW := hid (show ∀ V, Crw W B g sp dk V → Crw W B g sp (dk.setIfInBounds k1 x2) (V.setCell ⟨g, pk, none⟩ (.int .u64 (x2 : Int))) ∧ (∃ u, V.cell? ⟨g, pk, none⟩ = some u) ∧ V.frozen? ⟨g, pk, none⟩ = false ∧ V.cell? ⟨g, pj, none⟩ = some (.int .u64 (x2 : Int)) from fun V hV => by
                rw [hpk]
                refine ⟨hV.put HB.out.2.2 HO.out x2 hkd, ⟨_, hV.cell HO.out hkd⟩, hV.row.frozen _, ?_⟩
                have := hV.cell HO.out (show k + j < dk.size by omega)
                rwa [HJ.out.1.rest (k + j) (by omega) hq, ← hx2, show o + (k + j) = pj by have := HN2.out; omega] at this)
              have HV := hid HJ.out.2
              clear hx2 hy2 hpj hpm hjm hjp hkp hpk hkd hq hqm hxy hlt hj1 hj2 hkq hqn hdsz HJ
              go_wp2
              go_quiet (fail)
              have V2 := hid (HV.out.drewN nq)
              clear c0 c1 HV
              generalize wr.drewN nq = W2 at V2 ⊢
              obtain ⟨w1, ⟨u, w2⟩, w3, w4⟩ := HW.out W2 V2.out
              have HW1 := hid w1
              clear w1 HW
              go_wp2
              exact ⟨⟨kp, jp, _, rfl, rfl, HM.out.1, HM.out.2.1, hid ⟨HNX.out, HW1.out⟩⟩, by
                show n2 - ((jp : Int)).toNat < n2 - ((j : Int)).toNat
                rw [Int.toNat_natCast, Int.toNat_natCast]
                exact HM.out.2.2⟩
          · obtain rfl : j = n2 := by omega
            have d3 : decide ((j : Int) < (j : Int)) = false := by simp
            have hkj : k + j = n := HN2.out.1
            obtain ⟨m2, hm2⟩ : ∃ m, m = n - k1 := ⟨_, rfl⟩
            obtain ⟨c3, hc3⟩ : ∃ m, m = c - k1 := ⟨_, rfl⟩
            obtain ⟨pk, hpk⟩ : ∃ x, x = o + k1 := ⟨_, rfl⟩
            have hfr2 := run_from (g := g) (o := o) (n := n) (c := c) (k := k1) (by omega) (by have := HB.out; omega)
            rw [← hpk, ← hm2, ← hc3] at hfr2
            have hto := run_to (g := g) (o := o) (n := n) (c := c) (k := k1) (by have := HB.out; omega)
            have hclr : ∀ ty, (Builtin.clear_ #[73] ty #[.slice (some ⟨g, pk, none⟩) m2 c3]).run Tryd.prog wr = .ok (.tuple #[]) (wr.setCells g pk (List.replicate m2 (.int .u64 0))) := fun ty =>
              Lib.run_clear_slice wr _ _ ty _ Tryd.underlying73 zeroU rfl rfl g pk m2 c3 (by omega)
                (fun i hi => by rw [hpk, Nat.add_assoc, HJ.out.2.cell HO.out (show k1 + i < dk.size by rw [hdsz, HN.out]; omega)]; rfl) (fun i hi => HJ.out.2.row.frozen _)
            have hON := HJ.out.1.once
            have hLN := HJ.out.1.len
            rw [hkj, show d.toList.take n = d.toList by rw [List.take_of_length_le (by rw [← HN.out]; simp)]] at hON hLN
            have HF := hid (show k1 = (onceS d.toList).length ∧ Nu (wr.setCells g pk (List.replicate m2 (.int .u64 0))) (wr.setCells g pk (List.replicate m2 (.int .u64 0))).heap.size (some ⟨g, o, none⟩) (onceS d.toList) ∧ Below B W (wr.setCells g pk (List.replicate m2 (.int .u64 0))) from by
              rw [hpk]
              exact ⟨hLN.symm, HJ.out.2.clear HB.out.2.2 HO.out (Nat.le_refl _) (by rw [hdsz, HN.out]; omega) hON _⟩)
            have HKC := hid (show k1 ≤ c by have := HB.out; omega)
            clear hlt hj1 hj2 hkq hqn hdsz hkj hm2 hc3 hpk hON hLN HJ
            generalize wr.setCells g pk (List.replicate m2 (.int .u64 0)) = W3 at hclr HF
            go_wp2
            go_ret
            exact ⟨_, k1, _, rfl, HKC.out, HF.out⟩
      · have b0 : ((x : Int) == (y : Int)) = false := by simp; omega
        have b0d : decide ((x : Int) = (y : Int)) = false := by simp; omega
        have b0n : decide (x = y) = false := by simpa using hxy
        have b0b : (x == y) = false := by simpa using hxy
        obtain ⟨kp, hkp⟩ : ∃ m, m = k + 1 := ⟨_, rfl⟩
        have ekp : (k : Int) + 1 = (kp : Int) := by omega
        have ewkp : IntKind.i64.wrap (kp : Int) = (kp : Int) := by rw [IntKind.wrap_i64] <;> have := HB.out <;> omega
        have HAN := hid (show Allk d kp by rw [hkp]; exact HK.out.1.next (by omega) hkd (by rw [← hx, ← hk0, ← hy]; exact hxy))
        have HM := hid (show 1 ≤ kp ∧ kp ≤ n ∧ n - kp < n - k by omega)
        have HW := hid HK.out.2
        clear hx hy hp0 hp1 hk0 hxy hkd hlt hk1 hkn hkp HK
        go_wp2
        go_quiet (fail)
        have V1 := hid (HW.out.drewN nq)
        clear c0 c1 HW
        generalize wr.drewN nq = W1 at V1 ⊢
        go_wp2
        exact ⟨⟨kp, rfl, HM.out.1, HM.out.2.1, hid ⟨HAN.out, V1.out⟩⟩, by
          show n - ((kp : Int)).toNat < n - ((k : Int)).toNat
          rw [Int.toNat_natCast, Int.toNat_natCast]
          exact HM.out.2.2⟩
    · obtain rfl : k = n := by omega
      have d1 : decide ((k : Int) < (k : Int)) = false := by simp
      have HF := hid (HALL.out wr HK.out.2 HK.out.1)
      clear hlt hk1 hkn HK
      go_wp2
      go_ret
      exact ⟨_, k, _, rfl, HB.out.1, HF.out⟩
end Go.Proofs.YthkbmpocfpbkoaaDoor

namespace Go.Proofs.YthkbmpocfpbkoaaDoor
open Go.RowKit Go.Sort

set_option maxRecDepth 100000 in
theorem pcompact_nil (W : World) : Calls Tryd.prog 82 #[.slice none 0 0] W fun e w' => e = .returned (.slice none 0 0) ∧ w' = W := by
  go_enter Tryd.func82, Tryd.ntmps82
  go_wp2
  go_ret
  exact ⟨rfl, rfl⟩
theorem merge_sorted (L : List Nat) : (L.mergeSort fun x y => decide (x ≤ y)).Pairwise (· ≤ ·) := by
  have := List.pairwise_mergeSort (le := fun (x y : Nat) => decide (x ≤ y)) (fun a b c h k => by simp at *; omega) (fun a b => by simp; omega) L
  exact this.imp fun h => by simpa using h
set_option maxRecDepth 100000 in
theorem pSort_any (L : List Nat) (A : Option Addr) (c : Nat) (w : World) (hlen : L.length ≤ 40) (hr : Nu w w.heap.size A L) :
    Calls Tryd.prog 52 #[.slice A L.length c] w fun e w' => ∃ A1 c1, e = .returned (.slice A1 (sortS L).length c1) ∧ (sortS L).length ≤ c1 ∧ Nu w' w'.heap.size A1 (sortS L) ∧ Below w.heap.size w w' := by
  obtain ⟨w1, hw1⟩ : ∃ V, V = w.alloc (.cells #[.slice A L.length c] 73) := ⟨_, rfl⟩
  have hb1 : Below w.heap.size w w1 := by rw [hw1]; exact (Below.refl _ _).alloc (Nat.le_refl _) _
  have hc1 : w1.cell? ⟨w.heap.size, 0, none⟩ = some (.slice A L.length c) := by rw [hw1]; exact (At.new w #[.slice A L.length c] 73).cell 0
  have hs1 : w1.heap.size = w.heap.size + 1 := by rw [hw1]; simp
  have HV := hid (values_any A L.length c w)
  rw [← hw1] at HV
  have HS := hid (psorted_any w.heap.size w.heap.size c L A w1 hlen (by omega) (by omega) hc1 (Rd.below hr hb1))
  have HB1 := hid hb1
  have HS1 := hid hs1
  have HLN := hid hlen
  have HCN := hid (fun V => pcompact_nil V)
  have HON := hid (fun (d : Array Nat) (hd : d.toList = L.mergeSort fun x y => decide (x ≤ y)) => show onceS d.toList = sortS L by
    rw [hd]
    exact sort_once (List.mergeSort_perm _ _) (merge_sorted L))
  have HNI := hid (fun (e : L = []) => show sortS L = [] by rw [e]; rfl)
  have HSZ := hid (fun (d : Array Nat) (hd : d.toList = L.mergeSort fun x y => decide (x ≤ y)) => show d.size = L.length by
    have := congrArg List.length hd
    simpa using this)
  clear hw1 hb1 hc1 hs1 hlen hr
  go_enter Tryd.func52, Tryd.ntmps52
  go_wp2_with (first
    | (go_at_call 84; refine HV.out.mono ?_; rintro r1 wa ⟨rfl, hwa⟩; rw [← hwa]; clear hwa)
    | (go_at_call 83; refine HS.out.mono ?_; rintro r2 w2 ⟨hcs, hb2⟩; have B2 := hid (HB1.out.trans (hb2.mono (by have := HS1.out; omega))); clear hb2; rcases hcs with ⟨rfl, hn⟩ | ⟨g, cap, sp, d, rfl, hg, ha, hca, hsp, hd⟩)
    | (go_at_call 82; with_reducible (refine (HCN.out _).mono ?_); rintro r3 w3 ⟨rfl, hw⟩; rw [hw]; clear hw)
    | (go_at_call 82; with_reducible (refine (pcompact_any w.heap.size g L.length cap d sp w2 ha (HSZ.out d hd.out) (by have := HLN.out; omega) hsp (by have := HS1.out; omega)).mono ?_); rintro r3 w3 ⟨A1, m, c1, rfl, hmc, hm, hn1, hb3⟩; have HM := hid hm; have HN1 := hid hn1; clear hm hn1))
  · go_ret
    exact ⟨none, 0, by rw [HNI.out hn]; rfl, by rw [HNI.out hn]; exact Nat.le_refl _, by rw [HNI.out hn]; exact Rd.nil _ _ _, B2.out⟩
  · go_ret
    have hm := HM.out
    have hn1 := HN1.out
    rw [HON.out d hd.out] at hm hn1
    subst hm
    exact ⟨A1, c1, rfl, hmc, hn1, B2.out.trans hb3⟩
end Go.Proofs.YthkbmpocfpbkoaaDoor
