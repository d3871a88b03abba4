/-
  Whether a number is beyond a root: the products of the library, the two tests.
-/
import Derived.Test.YtobehmjmmnmflaaDoorPr
import Derived.Shelf.Bits.Mul64
namespace Go.Proofs.YtobehmjmmnmflaaDoor
open Go.RowKit Go.Shelf

/-- The library's number of each type and function, in this program. -/
def rn : Ren := ⟨fun _ => 38, fun t => if t = 46 then 46 else 52, fun g => g⟩
theorem mulLays : Lays.n264 Tryd.prog rn where
  mixed := by kernel_rfl
  f264 := by
    show Tryd.prog.funcs[38]? = _
    rw [Tryd.func38]
    rfl
  t46 := Tryd.underlying46
  a46 := Tryd.isAgg46
  z46 := Tryd.sizeOf46
  v46 := Tryd.zeroValue46
  t53 := Tryd.underlying52
  a53 := Tryd.isAgg52
  z53 := Tryd.sizeOf52
  v53 := Tryd.zeroValue52
theorem mul_any (x y : Nat) (hx : x < 18446744073709551616) (hy : y < 18446744073709551616) (w : World) :
    Calls Tryd.prog 38 #[.int .u64 x, .int .u64 y] w fun e w' => e = .returned (.tuple #[.int .u64 ((x * y / 18446744073709551616 : Nat) : Int), .int .u64 ((x * y % 18446744073709551616 : Nat) : Int)]) ∧ w' = w :=
  Any.bits_Mul64 mulLays x y hx hy w
theorem cube_split (x : Nat) : x * x / 18446744073709551616 * x + x * x % 18446744073709551616 * x / 18446744073709551616 = x * x * x / 18446744073709551616 := by
  conv => rhs; rw [← Nat.div_add_mod (x * x) 18446744073709551616, Nat.add_mul, Nat.mul_assoc, Nat.mul_add_div (by omega)]
set_option maxHeartbeats 1000000 in
theorem square_any (p x B : Nat) (hx : x ≤ 34359738368) (w : World) (hB : At w B #[.int .u64 p] 52) :
    Calls Tryd.prog 40 #[.int .u64 (x : Int), .pointer (some ⟨B, 0, none⟩)] w fun e w' => e = .returned (.bool (decide (p ≤ x * x / 18446744073709551616))) ∧ w' = w := by
  have h1 : x * x ≤ 34359738368 * 34359738368 := Nat.mul_le_mul hx hx
  obtain ⟨h, hh⟩ : ∃ h, h = x * x / 18446744073709551616 := ⟨_, rfl⟩
  obtain ⟨l, hl⟩ : ∃ l, l = x * x % 18446744073709551616 := ⟨_, rfl⟩
  have hm := mul_any x x (by omega) (by omega) w
  rw [← hh, ← hl] at hm
  rw [← hh]
  have HM := hid hm
  clear hm hh hl
  have hc : w.cell? { block := B, off := 0 } = some (.int .u64 (p : Int)) := (hB.cell 0).trans rfl
  clear hB
  go_enter Tryd.func40, Tryd.ntmps40
  go_wp2_with (go_at_call 38; refine HM.out.mono ?_; rintro e w' ⟨rfl, hw⟩; rw [hw])
  go_ret
  exact ⟨by simp, rfl⟩
set_option maxHeartbeats 1000000 in
theorem cube_any (p x B : Nat) (hp : p ≤ 400) (hx : x ≤ 34359738368) (w : World) (hB : At w B #[.int .u64 p] 52) :
    Calls Tryd.prog 37 #[.int .u64 (x : Int), .pointer (some ⟨B, 0, none⟩)] w fun e w' => e = .returned (.bool (decide (p * 4294967296 ≤ x * x * x / 18446744073709551616))) ∧ w' = w := by
  have h1 : x * x ≤ 34359738368 * 34359738368 := Nat.mul_le_mul hx hx
  obtain ⟨r, hr⟩ : ∃ r, r = x * x * x / 18446744073709551616 := ⟨_, rfl⟩
  rw [← hr]
  rw [← cube_split] at hr
  obtain ⟨h, hh⟩ : ∃ h, h = x * x / 18446744073709551616 := ⟨_, rfl⟩
  obtain ⟨l, hl⟩ : ∃ l, l = x * x % 18446744073709551616 := ⟨_, rfl⟩
  have hm := mul_any x x (by omega) (by omega) w
  have hm2 := mul_any l x (by omega) (by omega) w
  rw [← hh, ← hl] at hm hr
  have h3 : h * x ≤ 64 * 34359738368 := Nat.mul_le_mul (by omega) hx
  obtain ⟨c, hcc⟩ : ∃ c, c = l * x / 18446744073709551616 := ⟨_, rfl⟩
  obtain ⟨d, hd⟩ : ∃ d, d = l * x % 18446744073709551616 := ⟨_, rfl⟩
  have h4 : c ≤ 34359738368 := by
    rw [hcc]
    have : l * x ≤ 18446744073709551616 * 34359738368 := Nat.mul_le_mul (by omega) hx
    omega
  rw [← hcc, ← hd] at hm2
  rw [← hcc] at hr
  obtain ⟨m, hmm⟩ : ∃ m, m = h * x := ⟨_, rfl⟩
  rw [← hmm] at hr h3
  have hx2 : (h : Int) * (x : Int) = (m : Int) := by rw [hmm]; push_cast; rfl
  have HM := hid hm
  have HM2 := hid hm2
  have hc : w.cell? { block := B, off := 0 } = some (.int .u64 (p : Int)) := (hB.cell 0).trans rfl
  clear hm hm2 hh hl hcc hd hmm hB
  have t1 : Hid True := trivial
  go_enter Tryd.func37, Tryd.ntmps37
  go_wp2_with (first
    | (go_at_call 38; have _t := t1; clear t1 _t; refine HM.out.mono ?_; rintro e w' ⟨rfl, hw⟩; rw [hw])
    | (go_at_call 38; refine HM2.out.mono ?_; rintro e w' ⟨rfl, hw⟩; rw [hw]))
  go_ret
  refine ⟨?_, rfl⟩
  have hd2 : decide ((p : Int) * 4294967296 ≤ (m : Int) + (c : Int)) = decide (p * 4294967296 ≤ r) := by rw [hr]; congr 1; exact propext ⟨fun h => by omega, fun h => by omega⟩
  rw [← hd2]
  rfl
/-- What tells whether a number is beyond a prime's root: a closure over a block of its own. -/
theorem beyondSquare_any (p : Nat) (w : World) :
    Calls Tryd.prog 26 #[.int .u64 (p : Int)] w fun e w' => e = .returned (.func (.func 40) #[] #[.pointer (some ⟨w.heap.size, 0, none⟩)]) ∧ w.alloc (.cells #[.int .u64 p] 52) = w' := by
  go_enter Tryd.func26, Tryd.ntmps26
  go_wp2
  go_ret
  exact ⟨rfl, rfl⟩
theorem beyondCube_any (p : Nat) (w : World) :
    Calls Tryd.prog 24 #[.int .u64 (p : Int)] w fun e w' => e = .returned (.func (.func 37) #[] #[.pointer (some ⟨w.heap.size, 0, none⟩)]) ∧ w.alloc (.cells #[.int .u64 p] 52) = w' := by
  go_enter Tryd.func24, Tryd.ntmps24
  go_wp2
  go_ret
  exact ⟨rfl, rfl⟩
end Go.Proofs.YtobehmjmmnmflaaDoor
