/-
  HmacSames, walked.
-/
import Derived.Test.YtobehmjmmnmflaaDoorHh
import Derived.BigQuiet
import Derived.Deep.Cut
namespace Go.Proofs.YtobehmjmmnmflaaDoor
open Go.RowKit

set_option maxRecDepth 100000 in
set_option maxHeartbeats 4000000 in
theorem sames_law (a b : List UInt8) (A B : Option Addr) (c d : Nat) (w : World) (ha : Rb w w.heap.size A a) (hb : Rb w w.heap.size B b) (la : a.length ≤ 140737488351232) (lb : b.length ≤ 140737488351232) (hT : Tabs w) :
    Calls Tryd.prog 6 #[.slice A a.length c, .slice B b.length d] w fun e w' => e = .returned (.bool true) ∧ Below w.heap.size w w' := by
  have K1 := hid (fun (w1 : World) (hb1 : Below w.heap.size w w1) => run_convert_rb (P := Tryd.prog) 34 9 5 Tryd.underlying34 Tryd.underlying5 Tryd.underlying9 (ha.below hb1) c)
  have K2 := hid (fun (w1 : World) (hb1 : Below w.heap.size w w1) => run_convert_rb (P := Tryd.prog) 34 9 5 Tryd.underlying34 Tryd.underlying5 Tryd.underlying9 (hb.below hb1) d)
  have KS := hid (fun (w1 : World) (hb1 : Below w.heap.size w w1) => same_any a b A B c d w1 ((ha.below hb1).mono hb1.size) ((hb.below hb1).mono hb1.size) (by omega) (by omega))
  have HE := hid (str_eq a b)
  have HT := hid hT
  obtain ⟨n, hn⟩ : ∃ n, n = a.length := ⟨_, rfl⟩
  obtain ⟨m, hm⟩ : ∃ m, m = b.length := ⟨_, rfl⟩
  rw [← hn] at K1 KS ⊢
  rw [← hm] at K2 KS ⊢
  obtain ⟨x, hx⟩ : ∃ x : ByteArray, x = ⟨a.toArray⟩ := ⟨_, rfl⟩
  obtain ⟨y, hy⟩ : ∃ y : ByteArray, y = ⟨b.toArray⟩ := ⟨_, rfl⟩
  rw [← hx] at K1 HE
  rw [← hy] at K2 HE
  obtain ⟨r, hr⟩ : ∃ r, r = (a == b) := ⟨_, rfl⟩
  rw [← hr] at KS HE
  have hE := HE.out
  clear hn hm hx hy hr HE hT ha hb la lb
  go_enter Tryd.func6, Tryd.ntmps6
  go_upto_region 3 with (go_at_call 13; refine (alive3_any w HT.out).mono ?_; rintro e w1 ⟨rfl, hb1⟩; have B1 := hid hb1; clear hb1)
  have B1d : Hid (Below w.heap.size w w1.drew) := hid (below_drewN B1.out 1)
  refine wp_region_upto (fun W => Below w.heap.size w W) 9 10 (by kernel_rfl) (by kernel_rfl) ?_
  refine wpUpto_take (i := 0) (v := .slice A n c) rfl (by kernel_rfl) (by kernel_rfl) (by kernel_rfl) (by kernel_rfl) (by decide) (fun _ _ _ h => h) (Or.inl ⟨by rfl, ?_⟩) B1d.out ?_
  · (intro W hSW; go_simp)
  refine wpUpto_take (i := 1) (v := .slice B m d) rfl (by kernel_rfl) (by kernel_rfl) (by kernel_rfl) (by kernel_rfl) (by decide) (fun _ _ _ h => h) (Or.inl ⟨by rfl, ?_⟩) B1d.out ?_
  · (intro W hSW; go_simp)
  refine wpUpto_take (i := 3) (v := .slice A n c) rfl (by kernel_rfl) (by kernel_rfl) (by kernel_rfl) (by kernel_rfl) (by decide) (fun _ _ _ h => h) (Or.inl ⟨by rfl, ?_⟩) B1d.out ?_
  · (intro W hSW; go_simp)
  refine wpUpto_take (i := 4) (v := .string x) rfl (by kernel_rfl) (by kernel_rfl) (by kernel_rfl) (by kernel_rfl) (by decide) (fun _ _ _ h => h) (Or.inl ⟨by rfl, ?_⟩) B1d.out ?_
  · (intro W hSW; have k1 := K1.out W hSW; go_simp)
  refine wpUpto_take (i := 5) (v := .slice B m d) rfl (by kernel_rfl) (by kernel_rfl) (by kernel_rfl) (by kernel_rfl) (by decide) (fun _ _ _ h => h) (Or.inl ⟨by rfl, ?_⟩) B1d.out ?_
  · (intro W hSW; go_simp)
  refine wpUpto_take (i := 6) (v := .string y) rfl (by kernel_rfl) (by kernel_rfl) (by kernel_rfl) (by kernel_rfl) (by decide) (fun _ _ _ h => h) (Or.inl ⟨by rfl, ?_⟩) B1d.out ?_
  · (intro W hSW; have k2 := K2.out W hSW; go_simp)
  refine wpUpto_take (i := 7) (v := .bool r) rfl (by kernel_rfl) (by kernel_rfl) (by kernel_rfl) (by kernel_rfl) (by decide) (fun _ _ _ h => h) (Or.inl ⟨by rfl, ?_⟩) B1d.out ?_
  · (intro W hSW; go_simp)
  simp only [Act.put, List.setIfInBounds_toArray]
  refine wpUpto_one (i := 2) rfl (by kernel_rfl) rfl ?_
  intro K hK
  go_simp
  go_at_call 21
  refine (KS.out _ B1d.out).mono ?_
  rintro e w2 ⟨rfl, rfl⟩
  refine hK.out _ _ (fun _ => B1d.out) ?_
  clear hK K
  refine wpUpto_take (i := 8) (v := .bool true) rfl (by kernel_rfl) (by kernel_rfl) (by kernel_rfl) (by kernel_rfl) (by decide) (fun _ _ _ h => h) (Or.inl ⟨by rfl, ?_⟩) B1d.out ?_
  · (intro W hSW; go_simp)
  refine wpUpto_one (i := 9) rfl (by kernel_rfl) rfl ?_
  intro K hK
  go_simp
  refine hK.out _ _ (fun h => absurd rfl h) ?_
  clear hK K
  refine wpUpto_done (by kernel_rfl) ?_ _
  go_simp
  go_wp2
  go_ret
  exact ⟨rfl, B1d.out⟩
end Go.Proofs.YtobehmjmmnmflaaDoor
