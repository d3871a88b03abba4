/-
  entrustnum.Bytes.
-/
import Derived.Test.YtjfpdbhjbleffaaDoorCm
namespace Go.Proofs.YtjfpdbhjbleffaaDoor
open Go.RowKit

set_option maxRecDepth 100000 in
theorem bytes_any (a b : List UInt8) (A B : Option Addr) (c d : Nat) (w : World) (ha : Rb w w.heap.size A a) (hb : Rb w w.heap.size B b) :
    Calls Tryd.prog 25 #[.slice A a.length c, .slice B b.length d] w fun e w' => e = .returned (.bool (a == b)) ∧ w = w' := by
  have k1 := run_convert_rb (P := Tryd.prog) 41 9 5 Tryd.underlying41 Tryd.underlying5 Tryd.underlying9 ha c
  have k2 := run_convert_rb (P := Tryd.prog) 41 9 5 Tryd.underlying41 Tryd.underlying5 Tryd.underlying9 hb d
  have HE := hid (str_eq a b)
  clear ha hb
  obtain ⟨n, hn⟩ : ∃ n, n = a.length := ⟨_, rfl⟩
  obtain ⟨m, hm⟩ : ∃ m, m = b.length := ⟨_, rfl⟩
  rw [← hn] at k1 ⊢
  rw [← hm] at k2 ⊢
  obtain ⟨x, hx⟩ : ∃ x : ByteArray, x = ⟨a.toArray⟩ := ⟨_, rfl⟩
  obtain ⟨y, hy⟩ : ∃ y : ByteArray, y = ⟨b.toArray⟩ := ⟨_, rfl⟩
  rw [← hx] at k1 HE
  rw [← hy] at k2 HE
  clear hn hm hx hy
  go_enter Tryd.func25, Tryd.ntmps25
  go_wp2
  go_ret
  exact ⟨by rw [← HE.out]; rfl, rfl⟩
end Go.Proofs.YtjfpdbhjbleffaaDoor
