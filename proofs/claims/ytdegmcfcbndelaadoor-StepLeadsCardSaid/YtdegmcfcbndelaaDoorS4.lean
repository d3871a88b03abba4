/-
  Layer 10, the program's side: whether a short part of a row is sorted.
  Layer 10, the program's side: a pivot chosen in a short part of a row.
  Layer 10, the program's side: a short part of a row stirred.
  Layer 10, the program's side: a short part of a row stirred, walked.
  Layer 10, the program's side: a short row sorted.
  Layer 10, the program's side: a slice of a few numbers of the call's own sorted; none.
-/
import Derived.Test.YtdegmcfcbndelaaDoorS1
import Derived.Test.YtdegmcfcbndelaaDoorL3
import Derived.Test.YtdegmcfcbndelaaDoorK6
import Derived.Test.YtdegmcfcbndelaaDoorS3
import Derived.Deep.CutRange
namespace Go.Proofs.YtdegmcfcbndelaaDoor
open Go.RowKit Go.Sort

theorem sorted_steps {a z : Nat} {d : Array Nat} (h : ∀ t, a < t → t < z → d[t - 1]! ≤ d[t]!) : SortedIn ltN a z d := by
  have key : ∀ k i, a ≤ i → i + k < z → d[i]! ≤ d[i + k]! := by
    intro k
    induction k with
    | zero => intro i _ _; exact Nat.le_refl _
    | succ k ih =>
      intro i h1 h2
      have h3 := ih i h1 (by omega)
      have h4 := h (i + (k + 1)) (by omega) (by omega)
      rw [show i + (k + 1) - 1 = i + k by omega] at h4
      omega
  intro i j h1 h2 h3
  rw [ltN_false]
  have := key (j - i) i h1 (by omega)
  rwa [show i + (j - i) = j by omega] at this
set_option maxRecDepth 100000 in
set_option maxHeartbeats 2000000 in
theorem partial_any (b c a z n : Nat) (d : Array Nat) (sp : Array Value) (W : World) (h : At W b (cel d sp) 23) (hn : d.size = n) (haz : a < z) (hz : z ≤ n) (hs : n ≤ 49) :
    Calls Tryd.prog 132 #[.slice (some ⟨b, 0, none⟩) n c, .int .i64 (a : Int), .int .i64 (z : Int)] W fun e w' => ∃ f : Bool, e = .returned (.bool f) ∧ Sw W b sp d w' ∧ (f = true → SortedIn ltN a z d) := by
  obtain ⟨o, ho⟩ : ∃ o, o = 0 := ⟨_, rfl⟩
  rw [← ho]
  have HO := hid ho
  have HST := hid (Sw.start h)
  have HSd := hid hn
  have HB := hid (show a < z ∧ z ≤ n ∧ n ≤ 49 from ⟨haz, hz, hs⟩)
  obtain ⟨a1, ha1⟩ : ∃ m, m = a + 1 := ⟨_, rfl⟩
  have e1 : (a : Int) + 1 = (a1 : Int) := by omega
  have ew1 : IntKind.i64.wrap (a1 : Int) = (a1 : Int) := by rw [IntKind.wrap_i64] <;> have := HB.out <;> omega
  obtain ⟨l, hl0⟩ : ∃ m, m = z - a := ⟨_, rfl⟩
  have e2 : (z : Int) - (a : Int) = (l : Int) := by omega
  have ew2 : IntKind.i64.wrap (l : Int) = (l : Int) := by rw [IntKind.wrap_i64] <;> have := HB.out <;> omega
  have d50 : decide ((l : Int) < 50) = true := by simp; omega
  have d50n : decide (l < 50) = true := by simp; omega
  have HA1 := hid ha1
  clear h hn ho haz hz hs ha1 hl0
  go_enter Tryd.func132, Tryd.ntmps132
  go_wp2
  go_loopw [7, 8] (fun vi vj wr => vi = .int .i64 (a1 : Int) ∧ vj = .int .i64 0 ∧ wr = W) (fun _ _ _ => 0)
  case atStart => exact ⟨rfl, rfl, rfl⟩
  case round =>
    obtain ⟨rfl, rfl, hwr⟩ := hrel
    rw [hwr]
    clear hwr
    go_wp2
    go_loopw [7] (fun v wr => ∃ i : Nat, v = .int .i64 (i : Int) ∧ a < i ∧ i ≤ z ∧ Hid (Sw W b sp d wr ∧ ∀ t, a < t → t < i → d[t - 1]! ≤ d[t]!)) (fun v _ => z - (intOf v).toNat)
    case atStart => exact ⟨a1, rfl, by have := HA1.out; omega, by have := HA1.out; have := HB.out; omega, hid ⟨HST.out, fun t h1 h2 => by have := HA1.out; omega⟩⟩
    case round =>
      obtain ⟨i, rfl, hai, hiz, HK⟩ := hrel
      by_cases hlt : i < z
      · have d1 : decide ((i : Int) < (z : Int)) = true := by simp; omega
        have d1n : decide (i < z) = true := by simpa using hlt
        obtain ⟨i0, hi0⟩ : ∃ m, m = i - 1 := ⟨_, rfl⟩
        have e3 : (i : Int) - 1 = (i0 : Int) := by omega
        have ew3 : IntKind.i64.wrap (i0 : Int) = (i0 : Int) := by rw [IntKind.wrap_i64] <;> have := HB.out <;> omega
        have hin : i < d.size := by have := HB.out; have := HSd.out; omega
        have hin0 : i0 < d.size := by omega
        have ik0 : (i : Int) < (n : Int) := by have := HB.out; omega
        have ik1 : (i0 : Int) < (n : Int) := by have := HB.out; omega
        have hpk := Sw.pack HO.out hin hin0 wr HK.out.1
        obtain ⟨x, hx⟩ : ∃ x, x = d[i]! := ⟨_, rfl⟩
        obtain ⟨y, hy⟩ : ∃ x, x = d[i0]! := ⟨_, rfl⟩
        obtain ⟨p0, hp0⟩ : ∃ x, x = o + i := ⟨_, rfl⟩
        obtain ⟨p1, hp1⟩ : ∃ x, x = o + i0 := ⟨_, rfl⟩
        rw [← hx, ← hy, ← hp0, ← hp1] at hpk
        have ep0 := hp0.symm
        have ep1 := hp1.symm
        obtain ⟨c0, c1, -, -, -⟩ := hpk
        have HQ := hid (fun (V : World) => sless_any x y V)
        have HV := hid HK.out.1
        cases hl : ltN x y with
        | true =>
          rw [hl] at HQ
          have dz : decide ((i : Int) = (z : Int)) = false := by simp; omega
          have dzb : ((i : Int) == (z : Int)) = false := by simp; omega
          have dzn : decide (i = z) = false := by simp; omega
          clear hx hy hp0 hp1 hl hin hin0 hi0 hlt hai hiz HK
          go_wp2
          go_quiet (first | (go_at_call 114; refine Calls.quiet_of_same (HQ.out _)))
          have V1 := hid (HV.out.drewN nq)
          clear c0 c1 HV HQ
          generalize wr.drewN nq = W1 at V1 ⊢
          go_wp2
          go_ret
          exact ⟨false, rfl, V1.out, fun h => nomatch h⟩
        | false =>
          rw [hl] at HQ
          rw [ltN_false, hx, hy, hi0] at hl
          obtain ⟨i1, hi1⟩ : ∃ m, m = i + 1 := ⟨_, rfl⟩
          have e4 : (i : Int) + 1 = (i1 : Int) := by omega
          have ew4 : IntKind.i64.wrap (i1 : Int) = (i1 : Int) := by rw [IntKind.wrap_i64] <;> have := HB.out <;> omega
          have HNX := hid (show ∀ t, a < t → t < i1 → d[t - 1]! ≤ d[t]! from fun t h1 h2 => by
            rcases Nat.lt_or_ge t i with q | q
            · exact HK.out.2 t h1 q
            · obtain rfl : t = i := by omega
              exact hl)
          have HM := hid (show a < i1 ∧ i1 ≤ z ∧ z - i1 < z - i by omega)
          clear hx hy hp0 hp1 hl hin hin0 hi0 hi1 hlt hai hiz HK
          go_wp2
          go_quiet (first | (go_at_call 114; refine Calls.quiet_of_same (HQ.out _)))
          have V1 := hid (HV.out.drewN nq)
          clear c0 c1 HV HQ
          generalize wr.drewN nq = W1 at V1 ⊢
          go_wp2
          exact ⟨⟨i1, rfl, HM.out.1, HM.out.2.1, hid ⟨V1.out, HNX.out⟩⟩, by
            show z - ((i1 : Int)).toNat < z - ((i : Int)).toNat
            rw [Int.toNat_natCast, Int.toNat_natCast]
            exact HM.out.2.2⟩
      · obtain rfl : i = z := by omega
        have d1 : decide ((i : Int) < (i : Int)) = false := by simp
        have HV := hid HK.out.1
        have HE := hid (sorted_steps HK.out.2)
        clear hlt hai hiz HK
        go_wp2
        go_quiet (fail)
        have V1 := hid (HV.out.drewN nq)
        clear HV
        generalize wr.drewN nq = W1 at V1 ⊢
        go_wp2
        go_ret
        exact ⟨true, rfl, V1.out, fun _ => HE.out⟩
end Go.Proofs.YtdegmcfcbndelaaDoor

namespace Go.Proofs.YtdegmcfcbndelaaDoor
open Go.RowKit Go.Sort

/-- The row as it is, and the cell that counts. -/
structure Mw (w : World) (b g : Nat) (sp : Array Value) (d : Array Nat) (k : Nat) (V : World) : Prop where
  row : Sw w b sp d V
  cnt : At V g #[.int .i64 (k : Int)] 3
section
variable {w V : World} {b g k : Nat} {sp : Array Value} {d : Array Nat}
theorem Mw.drewN (h : Mw w b g sp d k V) (q : Nat) : Mw w b g sp d k (V.drewN q) := ⟨h.row.drewN q, h.cnt⟩
theorem Mw.set (h : Mw w b g sp d k V) (hg : w.heap.size ≤ g) (hb : g ≠ b) (m : Nat) : Mw w b g sp d m (V.setCell ⟨g, 0, none⟩ (.int .i64 (m : Int))) :=
  ⟨h.row.far hg hb _, h.cnt.put 0 _⟩
theorem Mw.cell (h : Mw w b g sp d k V) : V.cell? ⟨g, 0, none⟩ = some (.int .i64 (k : Int)) := h.cnt.cell 0
theorem Mw.frozen (h : Mw w b g sp d k V) : V.frozen? ⟨g, 0, none⟩ = false := h.cnt.frozen 0
end
set_option maxRecDepth 100000 in
set_option maxHeartbeats 1000000 in
theorem order_any (b g c n lo hi i j k : Nat) (d : Array Nat) (sp : Array Value) (w W : World) (h : Mw w b g sp d k W) (hg : w.heap.size ≤ g) (hb : g ≠ b) (hn : d.size = n) (hs : hi ≤ n) (h1 : lo ≤ i) (h2 : i < hi) (h3 : lo ≤ j) (h4 : j < hi) (hk : k ≤ 100) :
    Calls Tryd.prog 143 #[.slice (some ⟨b, 0, none⟩) n c, .int .i64 (i : Int), .int .i64 (j : Int), .pointer (some ⟨g, 0, none⟩)] W fun e w' => ∃ x y k' : Nat, e = .returned (.tuple #[.int .i64 (x : Int), .int .i64 (y : Int)]) ∧ (lo ≤ x ∧ x < hi) ∧ (lo ≤ y ∧ y < hi) ∧ k' ≤ k + 1 ∧ Mw w b g sp d k' w' := by
  obtain ⟨o, ho⟩ : ∃ o, o = 0 := ⟨_, rfl⟩
  have HO := hid ho
  have HSET := hid (fun (V : World) (m : Nat) (hV : Mw w b g sp d k V) => hV.set hg hb m)
  have HM := hid h
  have HR := hid (show (lo ≤ i ∧ i < hi) ∧ (lo ≤ j ∧ j < hi) from ⟨⟨h1, h2⟩, ⟨h3, h4⟩⟩)
  have ik0 : (i : Int) < (n : Int) := by omega
  have ik1 : (j : Int) < (n : Int) := by omega
  have hpk := Sw.pack ho (show j < d.size by omega) (show i < d.size by omega) W h.row
  obtain ⟨x, hx⟩ : ∃ x, x = d[j]! := ⟨_, rfl⟩
  obtain ⟨y, hy⟩ : ∃ x, x = d[i]! := ⟨_, rfl⟩
  obtain ⟨p0, hp0⟩ : ∃ x, x = o + j := ⟨_, rfl⟩
  obtain ⟨p1, hp1⟩ : ∃ x, x = o + i := ⟨_, rfl⟩
  rw [← hx, ← hy, ← hp0, ← hp1] at hpk
  have ep0 := hp0.symm
  have ep1 := hp1.symm
  obtain ⟨c0, c1, -, -, -⟩ := hpk
  have HQ := hid (fun (V : World) => sless_any x y V)
  obtain ⟨o0, ho0⟩ : ∃ z, z = (⟨b, o, none⟩ : Addr) := ⟨_, rfl⟩
  obtain ⟨k1, hk1⟩ : ∃ m, m = k + 1 := ⟨_, rfl⟩
  have e1 : (k : Int) + 1 = (k1 : Int) := by omega
  have ew1 : IntKind.i64.wrap (k1 : Int) = (k1 : Int) := by rw [IntKind.wrap_i64] <;> omega
  have HK := hid hk1
  rw [show (⟨b, 0, none⟩ : Addr) = ⟨b, o, none⟩ by rw [ho]]
  clear h hg hb hn hs h1 h2 h3 h4 hx hy hp0 hp1 ho ho0 o0 hk hk1
  cases hl : ltN x y with
  | true =>
    rw [hl] at HQ
    clear hl
    go_enter Tryd.func143, Tryd.ntmps143
    go_wp2
    go_quiet (first | (go_at_call 114; refine Calls.quiet_of_same (HQ.out _)))
    have V1 := hid (HM.out.drewN nq)
    clear c0 c1 HM HQ
    generalize W.drewN nq = W1 at V1 ⊢
    have cc := V1.out.cell
    have ff := V1.out.frozen
    have V2 := hid (HSET.out W1 k1 V1.out)
    go_wp2
    go_ret2
    exact ⟨j, i, k1, rfl, HR.out.2, HR.out.1, by rw [HK.out]; exact Nat.le_refl _, V2.out⟩
  | false =>
    rw [hl] at HQ
    clear hl
    go_enter Tryd.func143, Tryd.ntmps143
    go_wp2
    go_quiet (first | (go_at_call 114; refine Calls.quiet_of_same (HQ.out _)))
    have V1 := hid (HM.out.drewN nq)
    clear c0 c1 HM HQ
    generalize W.drewN nq = W1 at V1 ⊢
    go_wp2
    go_ret2
    exact ⟨i, j, k, rfl, HR.out.1, HR.out.2, Nat.le_succ k, V1.out⟩
set_option maxRecDepth 100000 in
set_option maxHeartbeats 1000000 in
theorem median_any (b g c n lo hi i j l : Nat) (d : Array Nat) (sp : Array Value) (w W : World) (h : Mw w b g sp d 0 W) (hg : w.heap.size ≤ g) (hb : g ≠ b) (hn : d.size = n) (hs : hi ≤ n) (hi_ : lo ≤ i ∧ i < hi) (hj : lo ≤ j ∧ j < hi) (hl : lo ≤ l ∧ l < hi) :
    Calls Tryd.prog 142 #[.slice (some ⟨b, 0, none⟩) n c, .int .i64 (i : Int), .int .i64 (j : Int), .int .i64 (l : Int), .pointer (some ⟨g, 0, none⟩)] W fun e w' => ∃ x k' : Nat, e = .returned (.int .i64 (x : Int)) ∧ (lo ≤ x ∧ x < hi) ∧ k' ≤ 3 ∧ Mw w b g sp d k' w' := by
  have HC := hid (fun (V : World) (k x y : Nat) (hV : Mw w b g sp d k V) (hx : lo ≤ x ∧ x < hi) (hy : lo ≤ y ∧ y < hi) (hk : k ≤ 100) => order_any b g c n lo hi x y k d sp w V hV hg hb hn hs hx.1 hx.2 hy.1 hy.2 hk)
  have HM := hid h
  have HI := hid hi_
  have HJ := hid hj
  have HL := hid hl
  clear h hg hb hn hs hi_ hj hl
  go_enter Tryd.func142, Tryd.ntmps142
  go_wp2_with (first
    | (go_at_call 143; with_reducible (refine (HC.out w2 k2 _ _ M2.out X1.out Y2.out (by have := K2.out; omega)).mono ?_); rintro r3 w3 ⟨x3, y3, k3, rfl, hx3, hy3, hk3, hm3⟩; have Y3 := hid hy3; have M3 := hid hm3; have K3 := hid (show k3 ≤ 3 by have := K2.out; omega); clear hx3 hy3 hk3 hm3)
    | (go_at_call 143; with_reducible (refine (HC.out w1 k1 _ _ M1.out Y1.out HL.out (by have := K1.out; omega)).mono ?_); rintro r2 w2 ⟨x2, y2, k2, rfl, hx2, hy2, hk2, hm2⟩; have Y2 := hid hx2; have M2 := hid hm2; have K2 := hid (show k2 ≤ 2 by have := K1.out; omega); clear hx2 hy2 hk2 hm2)
    | (go_at_call 143; with_reducible (refine (HC.out W 0 _ _ HM.out HI.out HJ.out (by omega)).mono ?_); rintro r1 w1 ⟨x1, y1, k1, rfl, hx1, hy1, hk1, hm1⟩; have X1 := hid hx1; have Y1 := hid hy1; have M1 := hid hm1; have K1 := hid (show k1 ≤ 1 by omega); clear hx1 hy1 hk1 hm1))
  go_ret
  exact ⟨y3, k3, rfl, Y3.out, K3.out, M3.out⟩
set_option maxRecDepth 100000 in
set_option maxHeartbeats 2000000 in
theorem pivot_any (b c a z n : Nat) (d : Array Nat) (sp : Array Value) (W : World) (h : At W b (cel d sp) 23) (hn : d.size = n) (haz : a + 12 < z) (hz : z ≤ n) (hs : n ≤ 49) :
    Calls Tryd.prog 130 #[.slice (some ⟨b, 0, none⟩) n c, .int .i64 (a : Int), .int .i64 (z : Int)] W fun e w' => ∃ p t : Nat, e = .returned (.tuple #[.int .i64 (p : Int), .int .i64 (t : Int)]) ∧ (a < p ∧ p + 1 < z) ∧ t ≤ 2 ∧ Sw W b sp d w' := by
  obtain ⟨l, hl⟩ : ∃ m, m = z - a := ⟨_, rfl⟩
  have e1 : (z : Int) - (a : Int) = (l : Int) := by omega
  have ew1 : IntKind.i64.wrap (l : Int) = (l : Int) := by rw [IntKind.wrap_i64] <;> omega
  obtain ⟨f, hf⟩ : ∃ m, m = l / 4 := ⟨_, rfl⟩
  have e2 : (l : Int).tdiv 4 = (f : Int) := by rw [hf]; exact (Int.ofNat_tdiv l 4).symm
  have ew2 : IntKind.i64.wrap (f : Int) = (f : Int) := by rw [IntKind.wrap_i64] <;> omega
  have e3 : (f : Int) * 1 = (f : Int) := by omega
  obtain ⟨f2, hf2⟩ : ∃ m, m = 2 * f := ⟨_, rfl⟩
  have e4 : (f : Int) * 2 = (f2 : Int) := by omega
  have ew4 : IntKind.i64.wrap (f2 : Int) = (f2 : Int) := by rw [IntKind.wrap_i64] <;> omega
  obtain ⟨f3, hf3⟩ : ∃ m, m = 3 * f := ⟨_, rfl⟩
  have e5 : (f : Int) * 3 = (f3 : Int) := by omega
  have ew5 : IntKind.i64.wrap (f3 : Int) = (f3 : Int) := by rw [IntKind.wrap_i64] <;> omega
  obtain ⟨i1, hi1⟩ : ∃ m, m = a + f := ⟨_, rfl⟩
  have e6 : (a : Int) + (f : Int) = (i1 : Int) := by omega
  have ew6 : IntKind.i64.wrap (i1 : Int) = (i1 : Int) := by rw [IntKind.wrap_i64] <;> omega
  obtain ⟨i2, hi2⟩ : ∃ m, m = a + f2 := ⟨_, rfl⟩
  have e7 : (a : Int) + (f2 : Int) = (i2 : Int) := by omega
  have ew7 : IntKind.i64.wrap (i2 : Int) = (i2 : Int) := by rw [IntKind.wrap_i64] <;> omega
  obtain ⟨i3, hi3⟩ : ∃ m, m = a + f3 := ⟨_, rfl⟩
  have e8 : (a : Int) + (f3 : Int) = (i3 : Int) := by omega
  have ew8 : IntKind.i64.wrap (i3 : Int) = (i3 : Int) := by rw [IntKind.wrap_i64] <;> omega
  have d8 : decide ((8 : Int) ≤ (l : Int)) = true := by simp; omega
  have d8n : decide (8 ≤ l) = true := by simp; omega
  have d50 : decide ((50 : Int) ≤ (l : Int)) = false := by simp; omega
  have d50n : decide (50 ≤ l) = false := by simp; omega
  have hM0 : Mw W b W.heap.size sp d 0 (W.alloc (.cells #[.int .i64 0] 3)) := ⟨(Sw.start h).alloc _, At.new _ _ _⟩
  have HM0 := hid hM0
  have HR := hid (show (a + 1 ≤ i1 ∧ i1 < z - 1) ∧ (a + 1 ≤ i2 ∧ i2 < z - 1) ∧ (a + 1 ≤ i3 ∧ i3 < z - 1) by omega)
  have HC := hid (fun (V : World) (hV : Mw W b W.heap.size sp d 0 V) => median_any b W.heap.size c n (a + 1) (z - 1) i1 i2 i3 d sp W V hV (Nat.le_refl _) (by have := (Sw.start h).lt; omega) hn (by omega) HR.out.1 HR.out.2.1 HR.out.2.2)
  clear h hn haz hz hs hl hf hf2 hf3 hi1 hi2 hi3 hM0
  go_enter Tryd.func130, Tryd.ntmps130
  go_upto_region 12 with (first
    | (go_at_call 142; refine (HC.out _ HM0.out).mono ?_; rintro r1 w1 ⟨x, k, rfl, hx, hk, hm⟩)
    )
  have cc := hm.cell
  have HX := hid (show a < x ∧ x + 1 < z by omega)
  have HS := hid hm.row
  have b12 : decide ((k : Int) = 12) = false := by simp; omega
  have b12b : ((k : Int) == 12) = false := by simp; omega
  have b12n : decide (k = 12) = false := by simp; omega
  clear hx hm
  by_cases hk0 : k = 0
  · subst hk0
    clear hk
    go_wp2
    go_ret2
    exact ⟨x, 1, rfl, HX.out, by omega, HS.out⟩
  · have b0 : decide ((k : Int) = 0) = false := by simp; omega
    have b0b : ((k : Int) == 0) = false := by simp; omega
    have b0n : decide (k = 0) = false := by simp; omega
    clear hk0 hk
    go_wp2
    go_ret2
    exact ⟨x, 0, rfl, HX.out, by omega, HS.out⟩
end Go.Proofs.YtdegmcfcbndelaaDoor

namespace Go.Proofs.YtdegmcfcbndelaaDoor
open Go.RowKit Go.Sort

theorem wrapU_nat (z : Int) : ∃ y : Nat, y < 18446744073709551616 ∧ IntKind.u64.wrap z = (y : Int) := by
  refine ⟨(IntKind.u64.wrap z).toNat, ?_, ?_⟩ <;> simp only [IntKind.wrap, IntKind.signed, IntKind.bits] <;> simp <;> omega
theorem s_shl (t : TypeId) (x k : Nat) : ∃ y : Nat, y < 18446744073709551616 ∧ binOp .shl t (.int .u64 (x : Int)) (.int .u64 (k : Int)) = pure (.int .u64 (y : Int)) := by
  obtain ⟨y, hy, e⟩ := wrapU_nat ((x : Int) * 2 ^ (min k 64))
  refine ⟨y, hy, ?_⟩
  simp only [binOp]
  unfold Op.shift
  rw [if_neg (by omega)]
  simp only
  congr 2
theorem s_xor (t : TypeId) (x z : Nat) (hx : x < 18446744073709551616) (hz : z < 18446744073709551616) : ∃ y : Nat, y < 18446744073709551616 ∧ binOp .xor t (.int .u64 (x : Int)) (.int .u64 (z : Int)) = pure (.int .u64 (y : Int)) := by
  have h3 : x ^^^ z < 2 ^ 64 := Nat.xor_lt_two_pow hx hz
  refine ⟨x ^^^ z, h3, ?_⟩
  simp only [binOp_xor, Op.intBits]
  show (pure (.int .u64 (IntKind.u64.wrap ((BitVec.ofInt 64 (x : Int) ^^^ BitVec.ofInt 64 (z : Int)).toNat : Int))) : Sem Value) = _
  congr 2
  rw [BitVec.ofInt_natCast, BitVec.ofInt_natCast, BitVec.toNat_xor, BitVec.toNat_ofNat, BitVec.toNat_ofNat, Nat.mod_eq_of_lt (by omega), Nat.mod_eq_of_lt (by omega), IntKind.wrap_u64]
  omega
theorem s_and (t : TypeId) (x z : Nat) (hx : x < 18446744073709551616) (hz : z < 18446744073709551616) : ∃ y : Nat, y ≤ z ∧ binOp .and t (.int .u64 (x : Int)) (.int .u64 (z : Int)) = pure (.int .u64 (y : Int)) := by
  have h3 : x &&& z ≤ z := Nat.and_le_right
  refine ⟨x &&& z, h3, ?_⟩
  simp only [binOp_and, Op.intBits]
  show (pure (.int .u64 (IntKind.u64.wrap ((BitVec.ofInt 64 (x : Int) &&& BitVec.ofInt 64 (z : Int)).toNat : Int))) : Sem Value) = _
  congr 2
  rw [BitVec.ofInt_natCast, BitVec.ofInt_natCast, BitVec.toNat_and, BitVec.toNat_ofNat, BitVec.toNat_ofNat, Nat.mod_eq_of_lt (by omega), Nat.mod_eq_of_lt (by omega), IntKind.wrap_u64]
  omega
set_option maxRecDepth 100000 in
set_option maxHeartbeats 1000000 in
theorem xnext_any (g x : Nat) (W : World) (h : At W g #[.int .u64 (x : Int)] 199) (hx : x < 18446744073709551616) :
    Calls Tryd.prog 140 #[.pointer (some ⟨g, 0, none⟩)] W fun e w' => ∃ y : Nat, y < 18446744073709551616 ∧ e = .returned (.int .u64 (y : Int)) ∧ At w' g #[.int .u64 (y : Int)] 199 ∧ Fr (fun k => k = g) W w' := by
  obtain ⟨y1, hy1, s1⟩ := s_shl 199 x 13
  obtain ⟨z1, hz1, t1⟩ := s_xor 199 x y1 hx hy1
  have s2 := shr_u64 199 z1 7 .u64 (by omega)
  obtain ⟨y2, hy2⟩ : ∃ y, y = z1 >>> 7 := ⟨_, rfl⟩
  rw [← hy2] at s2
  obtain ⟨z2, hz2, t2⟩ := s_xor 199 z1 y2 hz1 (by rw [hy2, Nat.shiftRight_eq_div_pow]; omega)
  obtain ⟨y3, hy3, s3⟩ := s_shl 199 z2 17
  obtain ⟨z3, hz3, t3⟩ := s_xor 199 z2 y3 hz2 hy3
  replace s1 : binOp .shl 199 (.int .u64 (x : Int)) (.int .u64 13) = pure (.int .u64 (y1 : Int)) := s1
  replace s2 : binOp .shr 199 (.int .u64 (z1 : Int)) (.int .u64 7) = pure (.int .u64 (y2 : Int)) := s2
  replace s3 : binOp .shl 199 (.int .u64 (z2 : Int)) (.int .u64 17) = pure (.int .u64 (y3 : Int)) := s3
  have H0 := hid (show At W g #[.int .u64 (x : Int)] 199 ∧ Fr (fun k => k = g) W W from ⟨h, Fr.refl _ _⟩)
  have HST := hid (fun (V : World) (m k : Nat) (hV : At V g #[.int .u64 (m : Int)] 199 ∧ Fr (fun k => k = g) W V) => show At (V.setCell ⟨g, 0, none⟩ (.int .u64 (k : Int))) g #[.int .u64 (k : Int)] 199 ∧ Fr (fun k => k = g) W (V.setCell ⟨g, 0, none⟩ (.int .u64 (k : Int))) from ⟨hV.1.put 0 _, hV.2.setCell (.inr rfl) _⟩)
  have HDR := hid (fun (V : World) (m : Nat) (hV : At V g #[.int .u64 (m : Int)] 199 ∧ Fr (fun k => k = g) W V) => show At V.drew g #[.int .u64 (m : Int)] 199 ∧ Fr (fun k => k = g) W V.drew from ⟨hV.1, hV.2.drew⟩)
  have HZ := hid hz3
  clear h hx hy1 hz1 hy2 hz2 hy3 hz3
  go_enter Tryd.func140, Tryd.ntmps140
  have c0 := H0.out.1.cell 0
  have f0 := H0.out.1.frozen 0
  go_wp2
  go_region
  have H1 := hid (HDR.out _ _ (HST.out W x z1 H0.out))
  clear c0 f0 H0
  generalize (W.setCell ⟨g, 0, none⟩ (.int .u64 (z1 : Int))).drew = W1 at H1 ⊢
  have c0 := H1.out.1.cell 0
  have f0 := H1.out.1.frozen 0
  go_wp2
  go_region
  have H2 := hid (HDR.out _ _ (HST.out W1 z1 z2 H1.out))
  clear c0 f0 H1
  generalize (W1.setCell ⟨g, 0, none⟩ (.int .u64 (z2 : Int))).drew = W2 at H2 ⊢
  have c0 := H2.out.1.cell 0
  have f0 := H2.out.1.frozen 0
  go_wp2
  go_region
  have H3 := hid (HDR.out _ _ (HST.out W2 z2 z3 H2.out))
  clear c0 f0 H2
  generalize (W2.setCell ⟨g, 0, none⟩ (.int .u64 (z3 : Int))).drew = W3 at H3 ⊢
  have c0 := H3.out.1.cell 0
  go_wp2
  go_ret
  exact ⟨z3, HZ.out, rfl, H3.out.1, H3.out.2⟩
set_option maxRecDepth 100000 in
theorem plen_any (v : Nat) (W : World) (hv : v < 4294967296) : Calls Tryd.prog 118 #[.int .u64 (v : Int)] W fun r W' => r = .returned (.int .i64 (highN (v + 1) : Int)) ∧ W' = W := by
  have HL := hid (plen64_any v W hv)
  have uw : IntKind.u64.wrap (v : Int) = (v : Int) := by rw [IntKind.wrap_u64]; omega
  obtain ⟨h, hh⟩ : ∃ h, h = highN (v + 1) := ⟨_, rfl⟩
  rw [← hh] at HL ⊢
  clear hv hh
  go_enter Tryd.func118, Tryd.ntmps118
  go_wp2_with (first
    | (go_at_call 89; refine HL.out.mono ?_; rintro r1 w1 ⟨rfl, hw⟩; rw [hw]; clear hw))
  go_ret
  exact ⟨rfl, rfl⟩
set_option maxRecDepth 100000 in
theorem power_any (v : Nat) (W : World) (h0 : 0 < v) (hv : v ≤ 1000000) : Calls Tryd.prog 139 #[.int .i64 (v : Int)] W fun r W' => ∃ m : Nat, r = .returned (.int .u64 (m : Int)) ∧ (v < m ∧ m ≤ 2 * v) ∧ W' = W := by
  have HL := hid (plen_any v W (by omega))
  obtain ⟨h1, h2, h3⟩ := highN_spec (b := v + 1) (by omega)
  obtain ⟨h, hh⟩ : ∃ h, h = highN (v + 1) := ⟨_, rfl⟩
  rw [← hh] at HL h1 h2 h3
  have uw : IntKind.u64.wrap (v : Int) = (v : Int) := by rw [IntKind.wrap_u64]; omega
  have hpos : 0 < h := by
    rcases Nat.eq_zero_or_pos h with e | e
    · rw [e] at h1
      simp at h1
      omega
    · exact e
  have h4 := h3 (h - 1) (by omega)
  have hp2 : 2 ^ h = 2 * 2 ^ (h - 1) := by
    obtain ⟨k, rfl⟩ : ∃ k, h = k + 1 := ⟨h - 1, by omega⟩
    rw [Nat.add_sub_cancel, Nat.pow_succ, Nat.mul_comm]
  obtain ⟨m, hm⟩ : ∃ m, m = 2 ^ h := ⟨_, rfl⟩
  have hb : v < m ∧ m ≤ 2 * v := by omega
  have sh : binOp .shl 108 (.int .u64 1) (.int .i64 (h : Int)) = pure (.int .u64 (m : Int)) := by
    have := shl_u64 108 1 h .i64 (by omega) (by omega)
    rw [Nat.one_mul, ← hm] at this
    exact this
  have HB := hid hb
  clear h1 h2 h3 h4 hh hpos hp2 hm hb h0 hv
  go_enter Tryd.func139, Tryd.ntmps139
  go_wp2_with (first
    | (go_at_call 118; refine HL.out.mono ?_; rintro r1 w1 ⟨rfl, hw⟩; rw [hw]; clear hw))
  go_ret
  exact ⟨m, rfl, HB.out, rfl⟩
end Go.Proofs.YtdegmcfcbndelaaDoor

namespace Go.Proofs.YtdegmcfcbndelaaDoor
open Go.RowKit Go.Sort

/-- The row, and the number that the next one is made of. -/
structure Bw (w : World) (b g : Nat) (sp : Array Value) (d : Array Nat) (x : Nat) (V : World) : Prop where
  row : Sw w b sp d V
  num : At V g #[.int .u64 (x : Int)] 199
  lt : x < 18446744073709551616
theorem Bw.next {w V V' : World} {b g x y : Nat} {sp : Array Value} {d : Array Nat} (h : Bw w b g sp d x V) (hg : w.heap.size ≤ g) (hb : g ≠ b) (hy : y < 18446744073709551616) (hn : At V' g #[.int .u64 (y : Int)] 199) (hf : Fr (fun k => k = g) V V') : Bw w b g sp d y V' :=
  ⟨⟨h.row.at_.fr hf (fun e => hb e.symm), h.row.fr.next hf (fun k hk e => by omega)⟩, hn, hy⟩
theorem Bw.swap {w V : World} {b g x i j o : Nat} {sp : Array Value} {d : Array Nat} (h : Bw w b g sp d x V) (hb : g ≠ b) (ho : o = 0) (hi : i < d.size) (hj : j < d.size) :
    Bw w b g sp (swp d i j) x (((V.setCell ⟨b, o + i, none⟩ (.int .u64 ((d[j]! : Nat) : Int))).setCell ⟨b, o + j, none⟩ (.int .u64 ((d[i]! : Nat) : Int))).drew) :=
  ⟨(h.row.swap ho hi hj).drew, ((h.num.far hb _).far hb _).drew, h.lt⟩
set_option maxRecDepth 100000 in
set_option maxHeartbeats 4000000 in
theorem sbreak_any (b c a z n : Nat) (d : Array Nat) (sp : Array Value) (W : World) (h : At W b (cel d sp) 23) (hn : d.size = n) (haz : a + 12 < z) (hz : z ≤ n) (hs : n ≤ 1000000) :
    Calls Tryd.prog 129 #[.slice (some ⟨b, 0, none⟩) n c, .int .i64 (a : Int), .int .i64 (z : Int)] W fun e w' => e = .returned (.tuple #[]) ∧ ∃ d', Sw W b sp d' w' ∧ PermIn a z d d' := by
  obtain ⟨o, ho⟩ : ∃ o, o = 0 := ⟨_, rfl⟩
  rw [show (⟨b, 0, none⟩ : Addr) = ⟨b, o, none⟩ by rw [ho]]
  have HO := hid ho
  have HSd := hid hn
  have HB := hid (show a + 12 < z ∧ z ≤ n ∧ n ≤ 1000000 from ⟨haz, hz, hs⟩)
  obtain ⟨l, hl⟩ : ∃ m, m = z - a := ⟨_, rfl⟩
  have el : (z : Int) - (a : Int) = (l : Int) := by omega
  have ewl : IntKind.i64.wrap (l : Int) = (l : Int) := by rw [IntKind.wrap_i64] <;> omega
  have uwl : IntKind.u64.wrap (l : Int) = (l : Int) := by rw [IntKind.wrap_u64]; omega
  have d8 : decide ((8 : Int) ≤ (l : Int)) = true := by simp; omega
  have d8n : decide (8 ≤ l) = true := by simp; omega
  obtain ⟨f, hf⟩ : ∃ m, m = l / 4 := ⟨_, rfl⟩
  have e2 : (l : Int).tdiv 4 = (f : Int) := by rw [hf]; exact (Int.ofNat_tdiv l 4).symm
  have ew2 : IntKind.i64.wrap (f : Int) = (f : Int) := by rw [IntKind.wrap_i64] <;> omega
  obtain ⟨f2, hf2⟩ : ∃ m, m = 2 * f := ⟨_, rfl⟩
  have ef2 : (f : Int) * 2 = (f2 : Int) := by omega
  have ewf2 : IntKind.i64.wrap (f2 : Int) = (f2 : Int) := by rw [IntKind.wrap_i64] <;> have := HB.out <;> omega
  obtain ⟨s1, hs1⟩ : ∃ m, m = a + f2 := ⟨_, rfl⟩
  have es1 : (a : Int) + (f2 : Int) = (s1 : Int) := by omega
  have ews1 : IntKind.i64.wrap (s1 : Int) = (s1 : Int) := by rw [IntKind.wrap_i64] <;> have := HB.out <;> omega
  obtain ⟨s0, hs0⟩ : ∃ m, m = s1 - 1 := ⟨_, rfl⟩
  have es0 : (s1 : Int) - 1 = (s0 : Int) := by omega
  have ews0 : IntKind.i64.wrap (s0 : Int) = (s0 : Int) := by rw [IntKind.wrap_i64] <;> have := HB.out <;> omega
  obtain ⟨s2, hs2⟩ : ∃ m, m = s1 + 1 := ⟨_, rfl⟩
  have es2 : (s1 : Int) + 1 = (s2 : Int) := by omega
  have ews2 : IntKind.i64.wrap (s2 : Int) = (s2 : Int) := by rw [IntKind.wrap_i64] <;> have := HB.out <;> omega
  obtain ⟨G, hG⟩ : ∃ g, g = W.heap.size := ⟨_, rfl⟩
  have hbg : G ≠ b := by have := h.lt; omega
  have H0 := hid (show Bw W b G sp d l (W.alloc (.cells #[.int .u64 (l : Int)] 199)) from
    ⟨(Sw.start h).alloc _, (by rw [hG]; exact At.new W _ _), by omega⟩)
  have HPW := hid (fun V => power_any l V (by omega) (by omega))
  have HNX := hid (fun (V : World) (dk : Array Nat) (x : Nat) (hx : Bw W b G sp dk x V) => xnext_any G x V hx.num hx.lt)
  have HBN := hid (fun (V V' : World) (dk : Array Nat) (x y : Nat) (hx : Bw W b G sp dk x V) (hy : y < 18446744073709551616) (hn : At V' G #[.int .u64 (y : Int)] 199) (hf : Fr (fun k => k = G) V V') => hx.next (by rw [hG]; exact Nat.le_refl _) hbg hy hn hf)
  have HBS := hid hbg
  have HR := hid (show a + 5 ≤ s0 ∧ s0 + 1 = s1 ∧ s2 = s1 + 1 ∧ s2 < z ∧ 0 < l ∧ a + l = z by omega)
  rw [hG] at H0 HNX HBN HBS
  clear h hn haz hz hs hl hf hf2 hs1 hs0 hs2 hbg hG ho
  go_enter Tryd.func129, Tryd.ntmps129
  go_upto_region 3 with (fail)
  generalize W.heap.size = G at H0 HNX HBN HBS ⊢
  generalize hWA : World.alloc _ _ = WA at H0 ⊢
  clear hWA
  go_wp2_with (first
    | (go_at_call 139; refine (HPW.out _).mono ?_; rintro r1 w1 ⟨m, rfl, hm, hw⟩; rw [hw]; clear hw))
  obtain ⟨m1, hm1⟩ : ∃ k, k = m - 1 := ⟨_, rfl⟩
  have em1 : (m : Int) - 1 = (m1 : Int) := by omega
  have uwm1 : IntKind.u64.wrap (m1 : Int) = (m1 : Int) := by rw [IntKind.wrap_u64]; have := HR.out; have := HB.out; omega
  have HAN := hid (fun (y : Nat) (hy : y < 18446744073709551616) => s_and 108 y m1 hy (by have := HR.out; have := HB.out; omega))
  have HM := hid (show m1 < 2 * l by omega)
  clear hm hm1
  go_loopw [9] (fun v wr => ∃ (i x : Nat) (dk : Array Nat), v = .int .i64 (i : Int) ∧ s0 ≤ i ∧ i ≤ s2 + 1 ∧ Hid (dk.size = n ∧ Bw W b G sp dk x wr ∧ PermIn a z d dk)) (fun v _ => s2 + 1 - (intOf v).toNat)
  case atStart => exact ⟨s0, l, d, rfl, Nat.le_refl _, by have := HR.out; omega, hid ⟨HSd.out, H0.out, permIn_refl _ _ _⟩⟩
  case round =>
    obtain ⟨i, x, dk, rfl, his, hi2, HK⟩ := hrel
    by_cases hle : i ≤ s2
    · have d1 : decide ((i : Int) ≤ (s2 : Int)) = true := by simp; omega
      have d1n : decide (i ≤ s2) = true := by simpa using hle
      have HI := hid (show s0 ≤ i ∧ i ≤ s2 from ⟨his, hle⟩)
      have HSk := hid HK.out.1
      have HPk := hid HK.out.2.2
      have HC := hid (HNX.out wr dk x HK.out.2.1)
      have HBk := hid HK.out.2.1
      clear his hi2 hle HK
      go_upto_region 8 with (first
        | (go_at_call 140; refine HC.out.mono ?_; rintro r2 w2 ⟨y, hy, rfl, ha2, hf2⟩; have B2 := hid (HBN.out wr w2 dk x y HBk.out hy ha2 hf2); clear ha2 hf2; obtain ⟨ot, hot, sand⟩ := HAN.out y hy; have uwo : IntKind.u64.wrap (ot : Int) = (ot : Int) := (by rw [IntKind.wrap_u64]; have := HM.out; have := HB.out; have := HR.out; omega); have iwo : IntKind.i64.wrap (ot : Int) = (ot : Int) := (by rw [IntKind.wrap_i64] <;> have := HM.out <;> have := HB.out <;> have := HR.out <;> omega)))
      have HOT := hid (show ot < 2 * l by have := HM.out; omega)
      clear hot hy sand HC HBk
      by_cases hge : l ≤ ot
      · have dg : decide ((l : Int) ≤ (ot : Int)) = true := by simp; omega
        have dgn : decide (l ≤ ot) = true := by simpa using hge
        obtain ⟨oth, hoth⟩ : ∃ k, k = ot - l := ⟨_, rfl⟩
        have eot : (ot : Int) - (l : Int) = (oth : Int) := by omega
        have ewot : IntKind.i64.wrap (oth : Int) = (oth : Int) := by rw [IntKind.wrap_i64] <;> have := HOT.out <;> have := HB.out <;> have := HR.out <;> omega
        have HTH := hid (show oth < l by have := HOT.out; omega)
        clear hge hoth
        obtain ⟨q, hq⟩ : ∃ m, m = a + oth := ⟨_, rfl⟩
        have eq : (a : Int) + (oth : Int) = (q : Int) := by omega
        have ewq : IntKind.i64.wrap (q : Int) = (q : Int) := by rw [IntKind.wrap_i64] <;> have := HB.out <;> have := HTH.out <;> have := HR.out <;> omega
        have hi0 : i < dk.size := by have := HB.out; have := HSk.out; have := HI.out; have := HR.out; omega
        have hj0 : q < dk.size := by have := HB.out; have := HSk.out; have := HTH.out; have := HR.out; omega
        have iki : (i : Int) < (n : Int) := by have := HSk.out; omega
        have ikj : (q : Int) < (n : Int) := by have := HSk.out; omega
        have hpk := Sw.pack HO.out hi0 hj0 w2 B2.out.row
        have hsb := B2.out.swap HBS.out HO.out hi0 hj0
        have HPN := hid (show PermIn a z d (swp dk i q) from permIn_trans _ _ _ _ _ HPk.out (swp_permIn dk a z i q (by have := HI.out; have := HR.out; omega) (by have := HI.out; have := HR.out; omega) (by omega) (by have := HTH.out; have := HR.out; omega) (by have := HB.out; have := HSk.out; omega)))
        have HSN := hid (show (swp dk i q).size = n by rw [swp_size']; exact HSk.out)
        obtain ⟨y0, hy0⟩ : ∃ x, x = dk[i]! := ⟨_, rfl⟩
        obtain ⟨y1, hy1⟩ : ∃ x, x = dk[q]! := ⟨_, rfl⟩
        obtain ⟨p0, hp0⟩ : ∃ x, x = o + i := ⟨_, rfl⟩
        obtain ⟨p1, hp1⟩ : ∃ x, x = o + q := ⟨_, rfl⟩
        rw [← hy0, ← hy1, ← hp0, ← hp1] at hpk hsb
        have ep0 := hp0.symm
        have ep1 := hp1.symm
        obtain ⟨c0, c1, f0, f1, -⟩ := hpk
        have HSW := hid hsb
        clear hsb
        obtain ⟨i1, hi1⟩ : ∃ m, m = i + 1 := ⟨_, rfl⟩
        have ei1 : (i : Int) + 1 = (i1 : Int) := by omega
        have ewi1 : IntKind.i64.wrap (i1 : Int) = (i1 : Int) := by rw [IntKind.wrap_i64] <;> have := HB.out <;> have := HI.out <;> have := HR.out <;> omega
        have HMS := hid (show s0 ≤ i1 ∧ i1 ≤ s2 + 1 ∧ s2 + 1 - i1 < s2 + 1 - i by have := HI.out; omega)
        by_cases hpp : i = q
        · have hpp0 : p1 = p0 := by rw [hp0, hp1, hpp]
          have hyy : y1 = y0 := by rw [hy0, hy1, hpp]
          subst hpp0
          subst hyy
          clear hy0 hy1 hp0 hp1 hi0 hj0 hpp hq hi1
          go_wp2
          go_region
          clear c0 c1 f0 f1
          go_wp2
          exact ⟨⟨i1, _, _, rfl, HMS.out.1, HMS.out.2.1, hid ⟨HSN.out, HSW.out, HPN.out⟩⟩, by
            show s2 + 1 - ((i1 : Int)).toNat < s2 + 1 - ((i : Int)).toNat
            rw [Int.toNat_natCast, Int.toNat_natCast]
            exact HMS.out.2.2⟩
        · have hne : ¬ p0 = p1 := by omega
          have hne' : ¬ p1 = p0 := by omega
          clear hy0 hy1 hp0 hp1 hi0 hj0 hpp hq hi1
          go_wp2
          go_region
          clear c0 c1 f0 f1
          go_wp2
          exact ⟨⟨i1, _, _, rfl, HMS.out.1, HMS.out.2.1, hid ⟨HSN.out, HSW.out, HPN.out⟩⟩, by
            show s2 + 1 - ((i1 : Int)).toNat < s2 + 1 - ((i : Int)).toNat
            rw [Int.toNat_natCast, Int.toNat_natCast]
            exact HMS.out.2.2⟩
      · have dg : decide ((l : Int) ≤ (ot : Int)) = false := by simp; omega
        have dgn : decide (l ≤ ot) = false := by simpa using hge
        have HTH := hid (show ot < l by omega)
        clear hge
        obtain ⟨q, hq⟩ : ∃ m, m = a + ot := ⟨_, rfl⟩
        have eq : (a : Int) + (ot : Int) = (q : Int) := by omega
        have ewq : IntKind.i64.wrap (q : Int) = (q : Int) := by rw [IntKind.wrap_i64] <;> have := HB.out <;> have := HTH.out <;> have := HR.out <;> omega
        have hi0 : i < dk.size := by have := HB.out; have := HSk.out; have := HI.out; have := HR.out; omega
        have hj0 : q < dk.size := by have := HB.out; have := HSk.out; have := HTH.out; have := HR.out; omega
        have iki : (i : Int) < (n : Int) := by have := HSk.out; omega
        have ikj : (q : Int) < (n : Int) := by have := HSk.out; omega
        have hpk := Sw.pack HO.out hi0 hj0 w2 B2.out.row
        have hsb := B2.out.swap HBS.out HO.out hi0 hj0
        have HPN := hid (show PermIn a z d (swp dk i q) from permIn_trans _ _ _ _ _ HPk.out (swp_permIn dk a z i q (by have := HI.out; have := HR.out; omega) (by have := HI.out; have := HR.out; omega) (by omega) (by have := HTH.out; have := HR.out; omega) (by have := HB.out; have := HSk.out; omega)))
        have HSN := hid (show (swp dk i q).size = n by rw [swp_size']; exact HSk.out)
        obtain ⟨y0, hy0⟩ : ∃ x, x = dk[i]! := ⟨_, rfl⟩
        obtain ⟨y1, hy1⟩ : ∃ x, x = dk[q]! := ⟨_, rfl⟩
        obtain ⟨p0, hp0⟩ : ∃ x, x = o + i := ⟨_, rfl⟩
        obtain ⟨p1, hp1⟩ : ∃ x, x = o + q := ⟨_, rfl⟩
        rw [← hy0, ← hy1, ← hp0, ← hp1] at hpk hsb
        have ep0 := hp0.symm
        have ep1 := hp1.symm
        obtain ⟨c0, c1, f0, f1, -⟩ := hpk
        have HSW := hid hsb
        clear hsb
        obtain ⟨i1, hi1⟩ : ∃ m, m = i + 1 := ⟨_, rfl⟩
        have ei1 : (i : Int) + 1 = (i1 : Int) := by omega
        have ewi1 : IntKind.i64.wrap (i1 : Int) = (i1 : Int) := by rw [IntKind.wrap_i64] <;> have := HB.out <;> have := HI.out <;> have := HR.out <;> omega
        have HMS := hid (show s0 ≤ i1 ∧ i1 ≤ s2 + 1 ∧ s2 + 1 - i1 < s2 + 1 - i by have := HI.out; omega)
        by_cases hpp : i = q
        · have hpp0 : p1 = p0 := by rw [hp0, hp1, hpp]
          have hyy : y1 = y0 := by rw [hy0, hy1, hpp]
          subst hpp0
          subst hyy
          clear hy0 hy1 hp0 hp1 hi0 hj0 hpp hq hi1
          go_wp2
          go_region
          clear c0 c1 f0 f1
          go_wp2
          exact ⟨⟨i1, _, _, rfl, HMS.out.1, HMS.out.2.1, hid ⟨HSN.out, HSW.out, HPN.out⟩⟩, by
            show s2 + 1 - ((i1 : Int)).toNat < s2 + 1 - ((i : Int)).toNat
            rw [Int.toNat_natCast, Int.toNat_natCast]
            exact HMS.out.2.2⟩
        · have hne : ¬ p0 = p1 := by omega
          have hne' : ¬ p1 = p0 := by omega
          clear hy0 hy1 hp0 hp1 hi0 hj0 hpp hq hi1
          go_wp2
          go_region
          clear c0 c1 f0 f1
          go_wp2
          exact ⟨⟨i1, _, _, rfl, HMS.out.1, HMS.out.2.1, hid ⟨HSN.out, HSW.out, HPN.out⟩⟩, by
            show s2 + 1 - ((i1 : Int)).toNat < s2 + 1 - ((i : Int)).toNat
            rw [Int.toNat_natCast, Int.toNat_natCast]
            exact HMS.out.2.2⟩
    · have d1 : decide ((i : Int) ≤ (s2 : Int)) = false := by simp; omega
      have d1n : decide (i ≤ s2) = false := by simpa using hle
      clear hle his hi2
      go_wp2
      go_end0
      exact ⟨rfl, dk, HK.out.2.1.row, HK.out.2.2⟩
end Go.Proofs.YtdegmcfcbndelaaDoor

namespace Go.Proofs.YtdegmcfcbndelaaDoor
open Go.RowKit Go.Sort

/-- What a call of the sort for a part of a row asks and does. -/
def PdqC (g c n : Nat) (sp : Array Value) (N : Nat) : Prop := ∀ (a z lim : Nat) (d : Array Nat) (W : World), z - a ≤ N → a ≤ z → z ≤ n → lim ≤ 1000 → d.size = n → Below ltN a z d → At W g (cel d sp) 23 →
    Calls Tryd.prog 117 #[.slice (some ⟨g, 0, none⟩) n c, .int .i64 (a : Int), .int .i64 (z : Int), .int .i64 (lim : Int)] W fun e w' => e = .returned (.tuple #[]) ∧ ∃ d', Sw W g sp d' w' ∧ PermIn a z d d' ∧ SortedIn ltN a z d'
set_option maxRecDepth 100000 in
set_option maxHeartbeats 4000000 in
theorem pdq_step (g c n : Nat) (sp : Array Value) (hs : n ≤ 40) (N : Nat) (ih : ∀ m, m < N → PdqC g c n sp m) : PdqC g c n sp N := by
  intro a0 z0 lim0 d0 W hN haz hz hlim hn hbel hat
  have HST := hid (Sw.start hat)
  have HB := hid (show z0 ≤ n ∧ n ≤ 40 ∧ z0 ≤ d0.size ∧ lim0 ≤ 1000 from ⟨hz, hs, by omega, hlim⟩)
  have HP0 := hid (Pq.start haz hbel)
  have HS0 := hid hn
  have HIH := hid (fun (V : World) (a z lim : Nat) (d : Array Nat) (hx : Sw W g sp d V) (h1 : z - a < N) (h2 : a ≤ z) (h3 : z ≤ n) (h4 : lim ≤ 1000) (h5 : d.size = n) (h6 : Below ltN a z d) => ih (z - a) h1 a z lim d V (Nat.le_refl _) h2 h3 h4 h5 h6 hx.at_)
  have HINS := hid (fun (V : World) (a z : Nat) (d : Array Nat) (hx : Sw W g sp d V) (h1 : a ≤ z) (h2 : z ≤ n) (h3 : d.size = n) => insertion_any g c a z n d sp V hx.at_ h3 h1 h2 (by omega))
  have HHP := hid (fun (V : World) (a z : Nat) (d : Array Nat) (hx : Sw W g sp d V) (h1 : a < z) (h2 : z ≤ n) (h3 : d.size = n) => heap_any g c a z n d sp V hx.at_ h3 h1 h2 (by omega))
  have HBR := hid (fun (V : World) (a z : Nat) (d : Array Nat) (hx : Sw W g sp d V) (h1 : a + 12 < z) (h2 : z ≤ n) (h3 : d.size = n) => sbreak_any g c a z n d sp V hx.at_ h3 h1 h2 (by omega))
  have HPV := hid (fun (V : World) (a z : Nat) (d : Array Nat) (hx : Sw W g sp d V) (h1 : a + 12 < z) (h2 : z ≤ n) (h3 : d.size = n) => pivot_any g c a z n d sp V hx.at_ h3 h1 h2 (by omega))
  have HRV := hid (fun (V : World) (a z : Nat) (d : Array Nat) (hx : Sw W g sp d V) (h1 : a < z) (h2 : z ≤ n) (h3 : d.size = n) => reverse_any g c a z n d sp V hx.at_ h3 h1 h2 (by omega))
  have HPA := hid (fun (V : World) (a z : Nat) (d : Array Nat) (hx : Sw W g sp d V) (h1 : a < z) (h2 : z ≤ n) (h3 : d.size = n) => partial_any g c a z n d sp V hx.at_ h3 h1 h2 (by omega))
  have HPE := hid (fun (V : World) (a z p : Nat) (d : Array Nat) (hx : Sw W g sp d V) (h1 : a < p) (h2 : p < z) (h3 : z ≤ n) (h4 : d.size = n) => partequal_any g c a z p n d sp V hx.at_ h4 h1 h2 h3 (by omega))
  have HPT := hid (fun (V : World) (a z p : Nat) (d : Array Nat) (hx : Sw W g sp d V) (h1 : a < p) (h2 : p < z) (h3 : z ≤ n) (h4 : d.size = n) => partition_any g c a z p n d sp V hx.at_ h4 h1 h2 h3 (by omega))
  have HNN := hid (show z0 - a0 ≤ N from hN)
  clear hN haz hz hlim hn hbel hat hs ih
  go_enter Tryd.func117, Tryd.ntmps117
  go_wp2
  go_loopg [1, 2, 3, 8, 9] N (fun k s1 s2 s3 s8 s9 wr => ∃ (a z lim : Nat) (wb wp : Bool) (d : Array Nat), s1 = .int .i64 (a : Int) ∧ s2 = .int .i64 (z : Int) ∧ s3 = .int .i64 (lim : Int) ∧ s8 = .bool wb ∧ s9 = .bool wp ∧ Hid (z - a ≤ k ∧ lim ≤ 1000 ∧ d.size = n ∧ Sw W g sp d wr ∧ Pq a0 z0 d0 a z d))
  case atStart => exact ⟨a0, z0, lim0, true, true, d0, rfl, rfl, rfl, rfl, rfl, hid ⟨HNN.out, HB.out.2.2.2, HS0.out, HST.out, HP0.out⟩⟩
  case round =>
    obtain ⟨a, z, lim, wb, wp, d, rfl, rfl, rfl, rfl, rfl, HK⟩ := hrel
    obtain ⟨l, hl⟩ : ∃ m, m = z - a := ⟨_, rfl⟩
    have hazz := HK.out.2.2.2.2.hab
    have hzz := HK.out.2.2.2.2.hb
    have el : (z : Int) - (a : Int) = (l : Int) := by omega
    have ewl : IntKind.i64.wrap (l : Int) = (l : Int) := by rw [IntKind.wrap_i64] <;> have := HB.out <;> omega
    by_cases h12 : l ≤ 12
    · have d12 : decide ((l : Int) ≤ 12) = true := by simp; omega
      have d12n : decide (l ≤ 12) = true := by simp; omega
      have HI := hid (HINS.out wr a z d HK.out.2.2.2.1 hazz (by have := HB.out; omega) HK.out.2.2.1)
      have HF := hid (HK.out.2.2.2.2.end_ HB.out.2.2.1 (insertionSort_holds swoN d a z hazz (by have := HB.out; have := HK.out.2.2.1; omega)).1 (insertionSort_holds swoN d a z hazz (by have := HB.out; have := HK.out.2.2.1; omega)).2)
      clear hl hazz hzz h12
      go_wp2_with (first
        | (go_at_call 127; refine HI.out.mono ?_; rintro r1 w1 ⟨rfl, hw1⟩; have S1 := hid (HK.out.2.2.2.1.next hw1); clear hw1))
      (try simp only [Exit.inBlock, Exit.then]); refine bodyPost_ret (results_none rfl _ _ _) rfl ?_
      exact ⟨rfl, _, S1.out, HF.out⟩
    have d12 : decide ((l : Int) ≤ 12) = false := by simp; omega
    have d12n : decide (l ≤ 12) = false := by simp; omega
    have HL := hid (show 12 < l ∧ l = z - a ∧ a + 12 < z ∧ z ≤ n ∧ a0 ≤ a ∧ z ≤ z0 by have := HB.out; have := HK.out.2.2.2.2.ha; omega)
    by_cases hl0 : lim = 0
    · subst hl0
      have HI := hid (HHP.out wr a z d HK.out.2.2.2.1 (by have := HL.out; omega) HL.out.2.2.2.1 HK.out.2.2.1)
      have HF := hid (HK.out.2.2.2.2.end_ HB.out.2.2.1 (heapSort_holds swoN d a z hazz (by have := HB.out; have := HK.out.2.2.1; omega)).1 (heapSort_holds swoN d a z hazz (by have := HB.out; have := HK.out.2.2.1; omega)).2)
      clear hl hazz hzz h12
      go_wp2_with (first
        | (go_at_call 128; refine HI.out.mono ?_; rintro r1 w1 ⟨rfl, hw1⟩; have S1 := hid (HK.out.2.2.2.1.next hw1); clear hw1))
      (try simp only [Exit.inBlock, Exit.then]); refine bodyPost_ret (results_none rfl _ _ _) rfl ?_
      exact ⟨rfl, _, S1.out, HF.out⟩
    have dl0 : ((lim : Int) == 0) = false := by simp; omega
    have dl0d : decide ((lim : Int) = 0) = false := by simp; omega
    have dl0n : decide (lim = 0) = false := by simp; omega
    obtain ⟨lim1, hlim1⟩ : ∃ m, m = lim - 1 := ⟨_, rfl⟩
    have elim : (lim : Int) - 1 = (lim1 : Int) := by omega
    have ewlim : IntKind.i64.wrap (lim1 : Int) = (lim1 : Int) := by rw [IntKind.wrap_i64] <;> have := HK.out.2.1 <;> omega
    have HL1 := hid (show lim1 ≤ 1000 by have := HK.out.2.1; omega)
    clear hl hazz hzz h12 hl0 hlim1
    go_upto_if 35 with (fail)
    go_cut [3] from 19 to 133 (fun s3 wx => ∃ (limb : Nat) (db : Array Nat), s3 = .int .i64 (limb : Int) ∧ Hid (limb ≤ 1000 ∧ db.size = n ∧ Sw W g sp db wx ∧ Pq a0 z0 d0 a z db))
    case first =>
      cases wb with
      | true =>
        go_wp2
        go_meet
        case rel => exact ⟨lim, d, rfl, hid ⟨HK.out.2.1, HK.out.2.2⟩⟩
      | false =>
        have HI := hid (HBR.out wr a z d HK.out.2.2.2.1 HL.out.2.2.1 HL.out.2.2.2.1 HK.out.2.2.1)
        go_wp2_with (first
          | (go_at_call 129; refine HI.out.mono ?_; rintro r1 w1 ⟨rfl, d', hw1, hp1⟩; have S1 := hid (HK.out.2.2.2.1.next hw1); have P1 := hid hp1; clear hw1 hp1))
        go_meet
        case rel => exact ⟨lim1, d', rfl, hid ⟨HL1.out, by rw [P1.out.1]; exact HK.out.2.2.1, S1.out, HK.out.2.2.2.2.perm_ HB.out.2.2.1 P1.out⟩⟩
    case rest =>
      obtain ⟨limb, db, rfl, HC1⟩ := hcut
      have HI := hid (HPV.out wc a z db HC1.out.2.2.1 HL.out.2.2.1 HL.out.2.2.2.1 HC1.out.2.1)
      have HK0 := hid HK.out.1
      have HLB := hid HC1.out.1
      clear dl0 dl0d dl0n elim ewlim HK HL1
      go_upto_if 50 with (first
        | (go_at_call 130; refine HI.out.mono ?_; rintro r1 w1 ⟨p, t, rfl, hp1, ht1, hw1⟩; have S1 := hid (HC1.out.2.2.1.next hw1); have P1 := hid hp1; clear hw1 hp1))
      go_cut [11, 12] from 19 to 133 (fun s11 s12 wx => ∃ (pv tv : Nat) (dk : Array Nat), s11 = .int .i64 (pv : Int) ∧ s12 = .int .i64 (tv : Int) ∧ Hid ((a < pv ∧ pv + 1 < z) ∧ dk.size = n ∧ Sw W g sp dk wx ∧ Pq a0 z0 d0 a z dk))
      case first =>
        by_cases h2 : t = 2
        · subst h2
          obtain ⟨z1, hz1⟩ : ∃ m, m = z - 1 := ⟨_, rfl⟩
          have ez1 : (z : Int) - 1 = (z1 : Int) := by have := HL.out; omega
          have ewz1 : IntKind.i64.wrap (z1 : Int) = (z1 : Int) := by rw [IntKind.wrap_i64] <;> have := HB.out <;> have := HL.out <;> omega
          obtain ⟨pa, hpa⟩ : ∃ m, m = p - a := ⟨_, rfl⟩
          have epa : (p : Int) - (a : Int) = (pa : Int) := by have := P1.out; omega
          have ewpa : IntKind.i64.wrap (pa : Int) = (pa : Int) := by rw [IntKind.wrap_i64] <;> have := HB.out <;> have := HL.out <;> have := P1.out <;> omega
          obtain ⟨p2, hp2⟩ : ∃ m, m = z1 - pa := ⟨_, rfl⟩
          have ep2 : (z1 : Int) - (pa : Int) = (p2 : Int) := by have := P1.out; have := HL.out; omega
          have ewp2 : IntKind.i64.wrap (p2 : Int) = (p2 : Int) := by rw [IntKind.wrap_i64] <;> have := HB.out <;> have := HL.out <;> have := P1.out <;> omega
          have HPP := hid (show a < p2 ∧ p2 + 1 < z by have := P1.out; have := HL.out; omega)
          have HI2 := hid (HRV.out w1 a z db S1.out (by have := HL.out; omega) HL.out.2.2.2.1 HC1.out.2.1)
          clear hz1 hpa hp2 ht1
          go_wp2_with (first
            | (go_at_call 131; refine HI2.out.mono ?_; rintro r2 w2 ⟨rfl, d2, hw2, hp2⟩; have S2 := hid (S1.out.next hw2); have Q2 := hid hp2; clear hw2 hp2))
          go_meet
          case rel => exact ⟨p2, 1, d2, rfl, rfl, hid ⟨HPP.out, by rw [Q2.out.1]; exact HC1.out.2.1, S2.out, HC1.out.2.2.2.perm_ HB.out.2.2.1 Q2.out⟩⟩
        · have k2 : ((t : Int) == 2) = false := by simp; omega
          have k2d : decide ((t : Int) = 2) = false := by simp; omega
          have k2n : decide (t = 2) = false := by simp; omega
          clear h2 ht1
          go_wp2
          go_meet
          case rel => exact ⟨p, t, db, rfl, rfl, hid ⟨P1.out, HC1.out.2.1, S1.out, HC1.out.2.2.2⟩⟩
      case rest =>
        obtain ⟨pv, tv, dk, rfl, rfl, HC2⟩ := hcut
        clear HI S1 P1 HC1 ht1
        go_upto_region 15 with (fail)
        go_cut [68] from 19 to 133 (fun s68 wx => ∃ f : Bool, s68 = .bool f ∧ Hid (Sw W g sp dk wx))
        case first =>
          have HW := hid HC2.out.2.2.1
          cases wb with
          | false =>
            go_wp2
            go_meet
            case rel => exact ⟨false, rfl, HW⟩
          | true =>
            cases wp with
            | false =>
              go_wp2
              go_meet
              case rel => exact ⟨false, rfl, HW⟩
            | true =>
              go_wp2
              go_meet
              case rel => exact ⟨_, rfl, HW⟩
        case rest =>
          obtain ⟨f, rfl, HW⟩ := hcut
          go_upto_if 68 with (fail)
          go_cut [] from 19 to 133 (fun wx => Hid (Sw W g sp dk wx))
          case first =>
            cases f with
            | false =>
              go_wp2
              go_meet
              case rel => exact HW
            | true =>
              have HI := hid (HPA.out wc a z dk HW.out (by have := HL.out; omega) HL.out.2.2.2.1 HC2.out.2.1)
              go_upto_if 72 with (first
                | (go_at_call 132; refine HI.out.mono ?_; rintro r1 w1 ⟨pf, rfl, hw1, hp1⟩; have S1 := hid (HW.out.next hw1); have P1 := hid hp1; clear hw1 hp1))
              cases pf with
              | true =>
                have HF := hid (HC2.out.2.2.2.end_ HB.out.2.2.1 (permIn_refl _ _ _) (P1.out rfl))
                go_wp2
                (try simp only [Exit.inBlock, Exit.then]); refine bodyPost_ret (results_none rfl _ _ _) rfl ?_
                exact ⟨rfl, _, S1.out, HF.out⟩
              | false =>
                go_wp2
                go_meet
                case rel => exact S1
          case rest =>
            have HW := hid hcut.out
            clear hcut
            go_upto_region 17 with (fail)
            go_cut [87] from 19 to 133 (fun s87 wx => ∃ f : Bool, s87 = .bool f ∧ Hid (Sw W g sp dk wx ∧ (f = true → 0 < a ∧ dk[pv]! ≤ dk[a - 1]!)))
            case first =>
              by_cases ha : 0 < a
              · have d0 : decide ((0 : Int) < (a : Int)) = true := by simp; omega
                have d0n : decide (0 < a) = true := by simpa using ha
                obtain ⟨o, ho⟩ : ∃ o, o = 0 := ⟨_, rfl⟩
                obtain ⟨am, ham⟩ : ∃ m, m = a - 1 := ⟨_, rfl⟩
                have eam : (a : Int) - 1 = (am : Int) := by omega
                have ewam : IntKind.i64.wrap (am : Int) = (am : Int) := by rw [IntKind.wrap_i64] <;> have := HB.out <;> have := HL.out <;> omega
                have h0 : am < dk.size := by have := HC2.out.2.1; have := HB.out; have := HL.out; omega
                have h1 : pv < dk.size := by have := HC2.out.2.1; have := HC2.out.1; have := HB.out; have := HL.out; omega
                have ik0 : (am : Int) < (n : Int) := by have := HC2.out.2.1; omega
                have ik1 : (pv : Int) < (n : Int) := by have := HC2.out.2.1; omega
                have hpk := Sw.pack ho h0 h1 wc HW.out
                obtain ⟨x, hx⟩ : ∃ x, x = dk[am]! := ⟨_, rfl⟩
                obtain ⟨y, hy⟩ : ∃ x, x = dk[pv]! := ⟨_, rfl⟩
                rw [← hx, ← hy, ho, Nat.zero_add, Nat.zero_add] at hpk
                obtain ⟨c0, c1, -, -, -⟩ := hpk
                have HQ := hid (fun (V : World) => sless_any x y V)
                have HA := hid (show 0 < a ∧ (ltN x y = false → dk[pv]! ≤ dk[a - 1]!) from ⟨ha, fun e => by rw [← ham, ← hx, ← hy]; exact ltN_false.1 e⟩)
                have HV := hid HW.out
                clear ha ho ham h0 h1 hx hy
                obtain ⟨fl, hfl⟩ : ∃ b, b = ltN x y := ⟨_, rfl⟩
                rw [← hfl] at HQ HA
                clear hfl
                cases fl with
                | true =>
                  go_wp2
                  go_quiet (first | (go_at_call 114; refine Calls.quiet_of_same (HQ.out _)))
                  have V1 := hid (HV.out.drewN nq)
                  clear c0 c1 HQ
                  go_wp2
                  go_meet
                  case rel => exact ⟨false, rfl, hid ⟨V1.out, fun h => nomatch h⟩⟩
                | false =>
                  go_wp2
                  go_quiet (first | (go_at_call 114; refine Calls.quiet_of_same (HQ.out _)))
                  have V1 := hid (HV.out.drewN nq)
                  clear c0 c1 HQ
                  go_wp2
                  go_meet
                  case rel => exact ⟨true, rfl, hid ⟨V1.out, fun _ => ⟨HA.out.1, HA.out.2 trivial⟩⟩⟩
              · have d0 : decide ((0 : Int) < (a : Int)) = false := by simp; omega
                have d0n : decide (0 < a) = false := by simpa using ha
                have HV := hid HW.out
                clear ha
                go_wp2
                go_quiet (fail)
                have V1 := hid (HV.out.drewN nq)
                go_wp2
                go_meet
                case rel => exact ⟨false, rfl, hid ⟨V1.out, fun h => nomatch h⟩⟩
            case rest =>
              obtain ⟨f, rfl, HF⟩ := hcut
              clear HW
              cases f with
              | true =>
                have HI := hid (HPE.out wc a z pv dk HF.out.1 HC2.out.1.1 (by have := HC2.out.1.2; omega) HL.out.2.2.2.1 HC2.out.2.1)
                go_wp2_with (first
                  | (go_at_call 133; refine HI.out.mono ?_; rintro r1 w1 ⟨m, d1, rfl, hw1, hq1⟩; have S1 := hid (HF.out.1.next hw1); have Q1 := hid hq1; clear hw1 hq1))
                go_roundg (z - m)
                case measure => have := Q1.out.1; have := HL.out; have := HK0.out; omega
                case rel =>
                  obtain ⟨q1, q2, q3, q4, q5⟩ := Q1.out
                  obtain ⟨u1, u2⟩ := HF.out.2 (by trivial)
                  exact ⟨m, z, limb, wb, wp, d1, rfl, rfl, rfl, rfl, rfl, hid ⟨Nat.le_refl _, HLB.out, by rw [q3.1]; exact HC2.out.2.1, S1.out, HC2.out.2.2.2.equal HB.out.2.2.1 q3 q1 q2 q4 q5 (HC2.out.2.2.2.least u1 u2)⟩⟩
              | false =>
                have HI := hid (HPT.out wc a z pv dk HF.out.1 HC2.out.1.1 (by have := HC2.out.1.2; omega) HL.out.2.2.2.1 HC2.out.2.1)
                go_upto_region 21 with (first
                  | (go_at_call 134; refine HI.out.mono ?_; rintro r1 w1 ⟨m, ap, d1, rfl, hw1, hq1⟩; have S1 := hid (HF.out.1.next hw1); have Q1 := hid hq1; clear hw1 hq1))
                obtain ⟨q1, q2, q3, q4, q5⟩ := Q1.out
                obtain ⟨lf, hlf⟩ : ∃ x, x = m - a := ⟨_, rfl⟩
                have elf : (m : Int) - (a : Int) = (lf : Int) := by omega
                have ewlf : IntKind.i64.wrap (lf : Int) = (lf : Int) := by rw [IntKind.wrap_i64] <;> have := HB.out <;> have := HL.out <;> omega
                obtain ⟨rt, hrt⟩ : ∃ x, x = z - m := ⟨_, rfl⟩
                have ert : (z : Int) - (m : Int) = (rt : Int) := by omega
                have ewrt : IntKind.i64.wrap (rt : Int) = (rt : Int) := by rw [IntKind.wrap_i64] <;> have := HB.out <;> have := HL.out <;> omega
                obtain ⟨l8, hl8⟩ : ∃ x, x = l / 8 := ⟨_, rfl⟩
                have el8 : (l : Int).tdiv 8 = (l8 : Int) := by rw [hl8]; exact (Int.ofNat_tdiv l 8).symm
                have ewl8 : IntKind.i64.wrap (l8 : Int) = (l8 : Int) := by rw [IntKind.wrap_i64] <;> have := HB.out <;> have := HL.out <;> omega
                obtain ⟨m1, hm1⟩ : ∃ x, x = m + 1 := ⟨_, rfl⟩
                have em1 : (m : Int) + 1 = (m1 : Int) := by omega
                have ewm1 : IntKind.i64.wrap (m1 : Int) = (m1 : Int) := by rw [IntKind.wrap_i64] <;> have := HB.out <;> have := HL.out <;> omega
                have hsz1 : d1.size = n := by rw [q3.1]; exact HC2.out.2.1
                by_cases hlr : lf < rt
                · have dlr : decide ((lf : Int) < (rt : Int)) = true := by simp; omega
                  have dlrn : decide (lf < rt) = true := by simpa using hlr
                  obtain ⟨wb2, hwb⟩ : ∃ b, b = decide (l8 ≤ lf) := ⟨_, rfl⟩
                  have ewb : decide ((l8 : Int) ≤ (lf : Int)) = wb2 := by rw [hwb]; simp
                  have ewbn := hwb.symm
                  have HI2 := hid (HIH.out w1 a m limb d1 S1.out (by have := HNN.out; have := HL.out; omega) q1 (by have := HL.out; omega) HLB.out hsz1 (HC2.out.2.2.2.belowL HB.out.2.2.1 q2 q3))
                  have HPN := hid (fun (d2 : Array Nat) (hp : PermIn a m d1 d2) (hs : SortedIn ltN a m d2) => show d2.size = n ∧ Pq a0 z0 d0 m1 z d2 by
                    rw [hm1]
                    exact ⟨by rw [hp.1]; exact hsz1, HC2.out.2.2.2.left HB.out.2.2.1 q1 q2 q3 q4 q5 hp hs⟩)
                  have HMS := hid (show z - m1 < l by have := HL.out; omega)
                  clear hlr hwb hlf hrt hl8 hm1 q1 q2 q3 q4 q5 hsz1 HI Q1
                  go_wp2_with (first
                    | (go_at_call 117; refine HI2.out.mono ?_; rintro r2 w2 ⟨rfl, d2, hw2, hp2, hs2⟩; have S2 := hid (S1.out.next hw2); have P2 := hid (HPN.out d2 hp2 hs2); clear hw2 hp2 hs2))
                  go_roundg (z - m1)
                  case measure => have := HMS.out; have := HL.out; have := HK0.out; omega
                  case rel => exact ⟨m1, z, limb, wb2, ap, d2, rfl, rfl, rfl, rfl, rfl, hid ⟨Nat.le_refl _, HLB.out, P2.out.1, S2.out, P2.out.2⟩⟩
                · have dlr : decide ((lf : Int) < (rt : Int)) = false := by simp; omega
                  have dlrn : decide (lf < rt) = false := by simpa using hlr
                  obtain ⟨wb2, hwb⟩ : ∃ b, b = decide (l8 ≤ rt) := ⟨_, rfl⟩
                  have ewb : decide ((l8 : Int) ≤ (rt : Int)) = wb2 := by rw [hwb]; simp
                  have ewbn := hwb.symm
                  have HI2 := hid (HIH.out w1 m1 z limb d1 S1.out (by have := HNN.out; have := HL.out; omega) (by omega) HL.out.2.2.2.1 HLB.out hsz1 (by rw [hm1]; exact belowR q5))
                  have HPN := hid (fun (d2 : Array Nat) (hp : PermIn m1 z d1 d2) (hs : SortedIn ltN m1 z d2) => show d2.size = n ∧ Pq a0 z0 d0 a m d2 by
                    rw [hm1] at hp hs
                    exact ⟨by rw [hp.1]; exact hsz1, HC2.out.2.2.2.right HB.out.2.2.1 q1 q2 q3 q4 q5 hp hs⟩)
                  have HMS := hid (show m - a < l by have := HL.out; omega)
                  clear hlr hwb hlf hrt hl8 hm1 q1 q2 q3 q4 q5 hsz1 HI Q1
                  go_wp2_with (first
                    | (go_at_call 117; refine HI2.out.mono ?_; rintro r2 w2 ⟨rfl, d2, hw2, hp2, hs2⟩; have S2 := hid (S1.out.next hw2); have P2 := hid (HPN.out d2 hp2 hs2); clear hw2 hp2 hs2))
                  go_roundg (m - a)
                  case measure => have := HMS.out; have := HL.out; have := HK0.out; omega
                  case rel => exact ⟨a, m, limb, wb2, ap, d2, rfl, rfl, rfl, rfl, rfl, hid ⟨Nat.le_refl _, HLB.out, P2.out.1, S2.out, P2.out.2⟩⟩
theorem pdq_any (g c n : Nat) (sp : Array Value) (hs : n ≤ 40) (N : Nat) : PdqC g c n sp N := by
  induction N using Nat.strongRecOn with
  | ind N ih => exact pdq_step g c n sp hs N ih
end Go.Proofs.YtdegmcfcbndelaaDoor

namespace Go.Proofs.YtdegmcfcbndelaaDoor
open Go.RowKit Go.Sort

set_option maxRecDepth 100000 in
theorem insertion_nil (W : World) : Calls Tryd.prog 127 #[.slice none 0 0, .int .i64 0, .int .i64 0] W fun e w' => e = .returned (.tuple #[]) ∧ w' = W := by
  go_enter Tryd.func127, Tryd.ntmps127
  go_wp2
  go_loopw [6] (fun vi wr => vi = .int .i64 1 ∧ wr = W) (fun _ _ => 0)
  case atStart => exact ⟨rfl, rfl⟩
  case round =>
    obtain ⟨rfl, hw⟩ := hrel
    rw [hw]
    clear hw
    go_wp2
    go_end0
    exact ⟨rfl, rfl⟩
set_option maxRecDepth 100000 in
theorem pdq_nil (k : Nat) (W : World) : Calls Tryd.prog 117 #[.slice none 0 0, .int .i64 0, .int .i64 0, .int .i64 (k : Int)] W fun e w' => e = .returned (.tuple #[]) ∧ w' = W := by
  have HI := hid (insertion_nil W)
  go_enter Tryd.func117, Tryd.ntmps117
  go_wp2
  go_loopw [1, 2, 3, 8, 9] (fun v1 v2 _ _ _ wr => v1 = .int .i64 0 ∧ v2 = .int .i64 0 ∧ wr = W) (fun _ _ _ _ _ _ => 0)
  case atStart => exact ⟨rfl, rfl, rfl⟩
  case round =>
    obtain ⟨rfl, rfl, hw⟩ := hrel
    rw [hw]
    clear hw
    go_wp2_with (first
      | (go_at_call 127; refine HI.out.mono ?_; rintro r1 w1 ⟨rfl, hw1⟩; rw [hw1]; clear hw1))
    (try simp only [Exit.inBlock, Exit.then]); refine bodyPost_ret (results_none rfl _ _ _) rfl ?_
    exact ⟨rfl, rfl⟩
set_option maxRecDepth 100000 in
theorem psort_nil (W : World) : Calls Tryd.prog 100 #[.slice none 0 0] W fun e w' => e = .returned (.tuple #[]) ∧ w' = W := by
  have HL := hid (plen_any 0 W (by omega))
  have HP := hid (fun k => pdq_nil k W)
  go_enter Tryd.func100, Tryd.ntmps100
  go_wp2_with (first
    | (go_at_call 118; refine HL.out.mono ?_; rintro r1 w1 ⟨rfl, hw1⟩; rw [hw1]; clear hw1)
    | (go_at_call 117; refine (HP.out _).mono ?_; rintro r1 w1 ⟨rfl, hw1⟩; rw [hw1]; clear hw1))
  go_end0
  exact ⟨rfl, rfl⟩
set_option maxRecDepth 100000 in
theorem psort_any (g c n : Nat) (d : Array Nat) (sp : Array Value) (W : World) (h : At W g (cel d sp) 23) (hn : d.size = n) (hs : n ≤ 40) :
    Calls Tryd.prog 100 #[.slice (some ⟨g, 0, none⟩) n c] W fun e w' => e = .returned (.tuple #[]) ∧ ∃ d', Sw W g sp d' w' ∧ d'.toList = d.toList.mergeSort (fun x y => decide (x ≤ y)) := by
  have HL := hid (plen_any n W (by omega))
  obtain ⟨h1, h2, -⟩ := highN_spec (b := n + 1) (by omega)
  obtain ⟨m, hm⟩ : ∃ m, m = highN (n + 1) := ⟨_, rfl⟩
  rw [← hm] at HL
  have HP := hid (pdq_any g c n sp hs n 0 n m d W (by omega) (by omega) (Nat.le_refl _) (by omega) hn (.inl rfl) h)
  have HS := hid (fun (d' : Array Nat) (hp : PermIn 0 n d d') (hs : SortedIn ltN 0 n d') => show d'.toList = d.toList.mergeSort (fun x y => decide (x ≤ y)) by
    subst hn
    exact sorted_one hp hs)
  have uw : IntKind.u64.wrap (n : Int) = (n : Int) := by rw [IntKind.wrap_u64]; omega
  clear h1 h2 hm h hn hs
  go_enter Tryd.func100, Tryd.ntmps100
  go_wp2_with (first
    | (go_at_call 118; refine HL.out.mono ?_; rintro r1 w1 ⟨rfl, hw1⟩; rw [hw1]; clear hw1)
    | (go_at_call 117; refine HP.out.mono ?_; rintro r1 w1 ⟨rfl, d', hw1, hp1, hs1⟩))
  go_end0
  exact ⟨rfl, d', hw1, HS.out d' hp1 hs1⟩
end Go.Proofs.YtdegmcfcbndelaaDoor
