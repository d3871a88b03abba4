/-
  The program's tables: substitutes, and the bytes that have them.
-/
import Derived.Test.YtenlidbgllahhaaFb
import Derived.Great.Walk
namespace Go.Proofs.Ytenlidbgllahhaa
open Go.RowKit

theorem run_alloc_of {o : Oper} {a : Go.Act} {W : World} (t : TypeId) (ho : o.op = .alloc t) (cs : Array Value) (hz : (Try.prog.info? t).bind (·.zero) = some (.agg cs)) :
    (execOp a.eval o).run Try.prog W = .ok (.value (.pointer (some ⟨W.heap.size, 0, none⟩))) (W.alloc (.cells cs t)) := by
  unfold execOp
  simp only [ho]
  cases hq : Try.prog.info? t with
  | none => rw [hq] at hz; cases hz
  | some inf =>
    have hs : inf.zero = some (.agg cs) := by rw [hq] at hz; simpa using hz
    simp [Instr.alloc, zeroValue, typeInfo, hq, hs, newVar, newRow, Value.cells]
def n256 : List UInt8 := List.replicate 256 0
theorem n256_length : n256.length = 256 := List.length_replicate
theorem zero256 : (Try.prog.info? 59).bind (·.zero) = some (.agg (ubs n256).toArray) := by kernel_rfl
theorem size256 : (Try.prog.info? 59).map (·.size) = some 256 := by kernel_rfl
theorem size256_of {l : List UInt8} (h : l.length = 256) : (Try.prog.info? 59).map (·.size) = some (ubs l).toArray.size := by rw [size256]; simp [ubs_length, h]
/-- The powers of 3; those that have been written down. -/
def pw3 : Nat → UInt8
  | 0 => 1
  | k + 1 => xr (pw3 k) (dbl (pw3 k))
def powL : Nat → List UInt8
  | 0 => n256
  | k + 1 => (powL k).set k (pw3 k)
theorem pw3_zero : pw3 0 = 1 := rfl
theorem pw3_succ (k : Nat) : pw3 (k + 1) = xr (pw3 k) (dbl (pw3 k)) := rfl
theorem powL_zero : powL 0 = n256 := rfl
theorem powL_succ (k : Nat) : powL (k + 1) = (powL k).set k (pw3 k) := rfl
theorem powL_length (k : Nat) : (powL k).length = 256 := by
  induction k with
  | zero => exact n256_length
  | succ k ih => rw [powL_succ, List.length_set, ih]
theorem powL_get (k i : Nat) (h : i < k) (hk : k ≤ 256) : (powL k).getD i 0 = pw3 i := by
  induction k with
  | zero => omega
  | succ k ih =>
    rw [powL_succ]
    by_cases hi : i = k
    · subst hi
      simp [powL_length, show i < 256 by omega]
    · have := ih (by omega) (by omega)
      rw [← this]
      simp [show k ≠ i by omega]
/-- The table in the making. -/
def tabk : Nat → List UInt8
  | 0 => n256.set 0 (soT 0)
  | k + 1 => (tabk k).set (pw3 k).toNat (soT (pw3 (255 - k)))
theorem tabk_zero : tabk 0 = n256.set 0 (soT 0) := rfl
theorem tabk_succ (k : Nat) : tabk (k + 1) = (tabk k).set (pw3 k).toNat (soT (pw3 (255 - k))) := rfl
theorem tabk_length (k : Nat) : (tabk k).length = 256 := by
  induction k with
  | zero => rw [tabk_zero, List.length_set, n256_length]
  | succ k ih => rw [tabk_succ, List.length_set, ih]
theorem tabk_all : tabk 256 = STab := by decide +kernel
theorem STab_length : STab.length = 256 := by decide +kernel
/-- The other table in the making. -/
def orgk : Nat → List UInt8
  | 0 => n256
  | k + 1 => (orgk k).set (sT (UInt8.ofNat k)).toNat (UInt8.ofNat k)
theorem orgk_zero : orgk 0 = n256 := rfl
theorem orgk_succ (k : Nat) : orgk (k + 1) = (orgk k).set (sT (UInt8.ofNat k)).toNat (UInt8.ofNat k) := rfl
theorem orgk_length (k : Nat) : (orgk k).length = 256 := by
  induction k with
  | zero => exact n256_length
  | succ k ih => rw [orgk_succ, List.length_set, ih]
theorem orgk_all : orgk 256 = RTab := by decide +kernel
theorem RTab_length : RTab.length = 256 := by decide +kernel
attribute [irreducible] pw3 powL tabk orgk n256
theorem run_index_ubT {o : Oper} {a : Go.Act} {W : World} (x c : Operand) (ho : o.op = .index 59 x c) (bs : List UInt8) (hx : a.eval x = .agg (ubs bs).toArray)
    (i : Nat) (hc : a.eval c = .int .i64 (i : Int)) (hi : i < 256) (hl : bs.length = 256) : (execOp a.eval o).run Try.prog W = .ok (.value (.int .u8 ((bs.getD i 0).toNat : Int))) W :=
  run_index_ub _ 256 x c ho Try.underlying59 bs hx i hc hi hl
structure Sb1 (w : World) (p : List UInt8) (wr : World) : Prop where
  a0 : At wr w.heap.size (ubs n256).toArray 59
  a1 : At wr (w.heap.size + 1) (ubs p).toArray 59
  size : wr.heap.size = w.heap.size + 2
  below : Below w.heap.size w wr
theorem Sb1.start (w : World) : Sb1 w n256 ((w.alloc (.cells (ubs n256).toArray 59)).alloc (.cells (ubs n256).toArray 59)) :=
  ⟨(At.new _ _ _).alloc _, At.new_at (by simp), by simp, ((Below.refl _ _).alloc (Nat.le_refl _) _).alloc (by simp) _⟩
theorem Sb1.put {w wr : World} {p : List UInt8} (h : Sb1 w p wr) (i : Nat) (b : UInt8) : Sb1 w (p.set i b) (wr.setCell ⟨w.heap.size + 1, i, none⟩ (.int .u8 (b.toNat : Int))) :=
  ⟨h.a0.far (p := ⟨w.heap.size + 1, i, none⟩) (by simp) _, at_ub_put h.a1 i b, by rw [← h.size]; simp, h.below.setCell (by simp) _⟩
structure Sb2 (w : World) (p t : List UInt8) (wr : World) : Prop where
  a0 : At wr w.heap.size (ubs n256).toArray 59
  a1 : At wr (w.heap.size + 1) (ubs p).toArray 59
  a2 : At wr (w.heap.size + 2) (ubs t).toArray 59
  below : Below w.heap.size w wr
theorem Sb1.next {w wr : World} {p : List UInt8} (h : Sb1 w p wr) : Sb2 w p n256 (wr.alloc (.cells (ubs n256).toArray 59)) :=
  ⟨h.a0.alloc _, h.a1.alloc _, At.new_at h.size.symm, h.below.alloc (by rw [h.size]; omega) _⟩
theorem Sb2.put {w wr : World} {p t : List UInt8} (h : Sb2 w p t wr) (i : Nat) (b : UInt8) : Sb2 w p (t.set i b) (wr.setCell ⟨w.heap.size + 2, i, none⟩ (.int .u8 (b.toNat : Int))) :=
  ⟨h.a0.far (p := ⟨w.heap.size + 2, i, none⟩) (by simp) _, h.a1.far (p := ⟨w.heap.size + 2, i, none⟩) (by simp) _, at_ub_put h.a2 i b, h.below.setCell (by simp) _⟩
set_option maxRecDepth 100000 in
set_option maxHeartbeats 1000000 in
theorem substitutes_any (w : World) : Calls Try.prog 32 #[] w fun e w' => e = .returned (.agg (ubs STab).toArray) ∧ Below w.heap.size w w' := by
  have H0 := hid (Sb1.start w)
  have HD := hid (fun x W => pdouble_any x W)
  have HS := hid (fun x W => substituteOf_any x W)
  have HS0 := hid (fun W => show Calls Try.prog 31 #[.int .u8 0] W (fun e w' => e = .returned (.int .u8 ((soT 0).toNat : Int)) ∧ w' = W) from substituteOf_any 0 W)
  have HAL := hid (fun (o : Oper) (a : Go.Act) (W : World) (h : o.op = .alloc 59) => run_alloc_of (o := o) (a := a) (W := W) _ h _ zero256)
  go_enter Try.func32, Try.ntmps32
  go_wp2_with (refine Great.wpList_allocTo rfl _ rfl _ _ (HAL.out _ _ _ rfl) ?_)
  go_loopw [2, 7] (fun vp vi wr => ∃ (k : Nat) (p : UInt8), k ≤ 256 ∧ vi = .int .i64 k ∧ vp = .int .u8 (p.toNat : Int) ∧ Hid (pw3 k = p) ∧ Sb1 w (powL k) wr) (fun _ vi _ => 256 - (intOf vi).toNat)
  case atStart => exact ⟨0, 1, by omega, rfl, rfl, pw3_zero, by rw [powL_zero]; exact H0.out⟩
  case round =>
    clear H0
    obtain ⟨k, p, hk, rfl, rfl, HP, hA⟩ := hrel
    have HA := hid hA
    clear hA
    by_cases hlt : k < 256
    · have c0 := at_ub_cell HA.out.a1 (i := k) (by rw [powL_length]; exact hlt)
      have f0 := HA.out.a1.frozen k
      have HN := hid (powL_succ k)
      have HC := HD.out p
      have HPS := hid (pw3_succ k)
      have hx := b_xr 5 p (dbl p)
      obtain ⟨q, hq⟩ : ∃ q, q = xr p (dbl p) := ⟨_, rfl⟩
      obtain ⟨d, hd⟩ : ∃ d, d = dbl p := ⟨_, rfl⟩
      have HQ := hid (show pw3 (k + 1) = q by rw [HPS.out, HP.out, hq])
      rw [← hq] at hx
      rw [← hd] at hx HC
      rw [HP.out] at HN
      replace HC := hid HC
      obtain ⟨x0, hx0⟩ : ∃ x, x = (powL k).getD k 0 := ⟨_, rfl⟩
      rw [← hx0] at c0
      clear hq hd HPS HP hx0
      go_wp2_with (go_at_call 29; refine (HC.out _).mono ?_; rintro e w' ⟨rfl, hw⟩; rw [hw]; clear hw)
      go_roundw
      case rel => exact ⟨k + 1, q, by omega, by go_num, rfl, HQ, by rw [HN.out]; exact HA.out.put k p⟩
      case measure => simp [intOf]; omega
    · obtain rfl : k = 256 := by omega
      obtain ⟨pl, hpl⟩ : ∃ pl, pl = powL 256 := ⟨_, rfl⟩
      have HPL := hid (show pl.length = 256 by rw [hpl, powL_length])
      have HPG := hid (fun i (h : i < 256) => show pl.getD i 0 = pw3 i by rw [hpl, powL_get 256 i h (by omega)])
      rw [← hpl] at HA
      have HB := hid HA.out.next
      have HNW := hid HA.out.size
      have HZP := hid (size256_of HPL.out)
      clear hpl
      have b0 := at_ub_cell HB.out.a2 (i := 0) (by rw [n256_length]; omega)
      have g0 := HB.out.a2.frozen 0
      obtain ⟨x0, hx0⟩ : ∃ x, x = n256.getD 0 0 := ⟨_, rfl⟩
      rw [← hx0] at b0
      obtain ⟨s0, hs0⟩ : ∃ x, x = soT 0 := ⟨_, rfl⟩
      rw [← hs0] at HS0
      have HT0 := hid (show tabk 0 = n256.set 0 s0 by rw [tabk_zero, hs0])
      clear hx0 hs0
      go_wp2_with (first
        | (refine Great.wpList_allocTo rfl _ rfl _ _ (HAL.out _ _ _ rfl) ?_; rw [HNW.out]; generalize (wr.alloc (.cells (ubs n256).toArray 59)) = W1 at HB b0 g0 ⊢)
        | (go_at_call 31; refine (HS0.out _).mono ?_; rintro e w' ⟨rfl, hw⟩; rw [hw]; clear hw)
        | (have HB2 := hid (show Sb2 w pl (tabk 0) (W1.setCell ⟨w.heap.size + 2, 0, none⟩ (.int .u8 (s0.toNat : Int))) by rw [HT0.out]; exact HB.out.put 0 s0); generalize (W1.setCell ⟨w.heap.size + 2, 0, none⟩ (.int .u8 (s0.toNat : Int))) = W2 at HB2 ⊢; clear b0 g0; refine wpList_load_row rfl _ (.tmp 1) rfl (w.heap.size + 1) rfl 59 (ubs pl).toArray (0, 0) _ HB2.out.a1 Try.underlying59 rfl HZP.out ?_))
      clear HB HNW
      go_loopw [21] (fun vi wr => ∃ k : Nat, k ≤ 256 ∧ vi = .int .i64 k ∧ Sb2 w pl (tabk k) wr) (fun vi _ => 256 - (intOf vi).toNat)
      case atStart => exact ⟨0, by omega, rfl, HB2.out⟩
      case round =>
        clear HB2
        obtain ⟨k, hk, rfl, hA⟩ := hrel
        have HA := hid hA
        clear hA
        by_cases hlt : k < 256
        · have HN := hid (tabk_succ k)
          have hxl := (pw3 k).toNat_lt
          have c1 := at_ub_cell HA.out.a1 (i := 255 - k) (by rw [HPL.out]; omega)
          have c2 := at_ub_cell HA.out.a2 (i := (pw3 k).toNat) (by rw [tabk_length]; omega)
          have f2 := HA.out.a2.frozen (pw3 k).toNat
          have HI := hid (fun (o : Oper) (a : Go.Act) (W : World) (h1 : o.op = .index 59 (.tmp 20) (.tmp 21)) (h2 : a.eval (.tmp 20) = .agg (ubs pl).toArray) (h3 : a.eval (.tmp 21) = .int .i64 (k : Int)) => run_index_ubT (o := o) (a := a) (W := W) _ _ h1 pl h2 k h3 hlt HPL.out)
          rw [HPG.out k hlt] at HI
          rw [HPG.out (255 - k) (by omega)] at c1
          have HC := HS.out (pw3 (255 - k))
          obtain ⟨x, hx⟩ : ∃ x, x = pw3 k := ⟨_, rfl⟩
          obtain ⟨y, hy⟩ : ∃ y, y = pw3 (255 - k) := ⟨_, rfl⟩
          obtain ⟨z, hz⟩ : ∃ z, z = soT (pw3 (255 - k)) := ⟨_, rfl⟩
          rw [← hz] at HN HC
          rw [← hx] at HI HN c2 f2 hxl
          rw [← hy] at HC c1
          replace HC := hid HC
          obtain ⟨x0, hx0⟩ : ∃ x0, x0 = (tabk k).getD x.toNat 0 := ⟨_, rfl⟩
          rw [← hx0] at c2
          obtain ⟨m, hm⟩ : ∃ m, m = 255 - k := ⟨_, rfl⟩
          rw [← hm] at c1
          have e1 : 255 - (k : Int) = (m : Int) := by omega
          have hml : m < 256 := by omega
          clear hx hy hz hx0 hm
          go_wp2_with (first
            | (refine wpList_val _ rfl (HI.out _ _ _ rfl rfl rfl) ?_)
            | (go_at_call 31; refine (HC.out _).mono ?_; rintro e w' ⟨rfl, hw⟩; rw [hw]; clear hw))
          go_roundw
          case rel => exact ⟨k + 1, by omega, by go_num, by rw [HN.out]; exact HA.out.put x.toNat z⟩
          case measure => simp [intOf]; omega
        · obtain rfl : k = 256 := by omega
          have ha := HA.out
          rw [tabk_all] at ha
          have HA2 := hid ha
          have HZ := hid (size256_of STab_length)
          clear ha HA
          go_wp2_with (first
            | (refine wpList_load_row rfl _ (.tmp 4) rfl (w.heap.size + 2) rfl 59 (ubs STab).toArray (0, 0) _ HA2.out.a2 Try.underlying59 rfl HZ.out ?_)
            | (refine wpList_store_row rfl _ (.tmp 0) (.tmp 33) rfl w.heap.size (ubs STab).toArray rfl rfl 59 (ubs n256).toArray HA2.out.a0 HZ.out ?e5 (ubs_all _) ?e6; rotate_right))
          case e5 => simp [ubs_length, n256_length, STab_length]
          refine bodyPost_ret (results_cell_row rfl _ _ w.heap.size 59 (ubs STab).toArray (0, 0) _ rfl (setRow_heap _ _ _ _ _ _ HA2.out.a0) Try.underlying59 rfl HZ.out) rfl ?_
          exact ⟨rfl, below_setRow HA2.out.below (by omega) _⟩
structure Or1 (w : World) (p : List UInt8) (wr : World) : Prop where
  a0 : At wr w.heap.size (ubs n256).toArray 59
  a1 : At wr (w.heap.size + 1) (ubs p).toArray 59
  below : Below w.heap.size w wr
theorem Or1.start {w wr : World} (h : Below ((w.alloc (.cells (ubs n256).toArray 59)).alloc (.cells (ubs n256).toArray 59)).heap.size ((w.alloc (.cells (ubs n256).toArray 59)).alloc (.cells (ubs n256).toArray 59)) wr) : Or1 w n256 wr :=
  ⟨((At.new _ _ _).alloc _).new_ h, At.new_ (At.new_at (by simp)) h, (((Below.refl _ _).alloc (Nat.le_refl _) _).alloc (by simp) _).trans (h.mono (by simp; omega))⟩
theorem Or1.put {w wr : World} {p : List UInt8} (h : Or1 w p wr) (i : Nat) (b : UInt8) : Or1 w (p.set i b) (wr.setCell ⟨w.heap.size + 1, i, none⟩ (.int .u8 (b.toNat : Int))) :=
  ⟨h.a0.far (p := ⟨w.heap.size + 1, i, none⟩) (by simp) _, at_ub_put h.a1 i b, h.below.setCell (by simp) _⟩
theorem STab_get (k : Nat) (h : k < 256) : STab.getD k 0 = sT (UInt8.ofNat k) := by
  unfold sT
  rw [show (UInt8.ofNat k).toNat = k by have := of_toNat k h; omega]
theorem wrap8 (k : Nat) (h : k < 256) : IntKind.u8.wrap (k : Int) = (k : Int) := by
  simp [IntKind.wrap, IntKind.signed, IntKind.bits]
  omega
end Go.Proofs.Ytenlidbgllahhaa
