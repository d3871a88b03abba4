/-
  alive of layer 6.
-/
import Derived.Test.YtjfpdbhjbleffaaDoorPo
import Derived.Test.YtjfpdbhjbleffaaDoorKc
import Derived.Test.YtjfpdbhjbleffaaDoorY4
namespace Go.Proofs.YtjfpdbhjbleffaaDoor
open Go.RowKit

theorem run_build_key {o : Oper} {a : Go.Act} {W : World} (ho : o.op = .build 23 #[]) : (execOp a.eval o).run Tryd.prog W = .ok (.value (.agg (ubs n16).toArray)) W := by
  unfold execOp
  simp only [ho, Sem.run_bind]
  rw [run_build W _ _ (ubs n16).toArray (by kernel_rfl)]
  rfl
set_option maxRecDepth 100000 in
set_option maxHeartbeats 1000000 in
theorem alive6_any (w : World) (hT : Tabs w) : Calls Tryd.prog 6 #[] w fun e w' => e = .returned (.bool true) ∧ Below w.heap.size w w' := by
  have HO := hid (kof_any n16 w n16_length hT)
  have HAC := hid (fun (o : Oper) (a : Go.Act) (W : World) (h : o.op = .alloc 29) => run_alloc_of (o := o) (a := a) (W := W) _ h _ zero112)
  have HSL := hid (setL_length n16)
  have HS := hid (fun (W : World) (g : Nat) (h : At W g (ubs (setL n16)).toArray 29) => And.intro (set_enc h) (And.intro (set_tag h) (And.intro (set_ticket h) (set_link h))))
  have HEL := hid (keyEnc_length n16)
  have HTL := hid (keyTag_length n16)
  have HUL := hid (keyTicket_length n16)
  have HLL := hid (keyLink_length n16)
  have H1 := hid zero_enc
  have H2 := hid zero_tag
  have H3 := hid zero_ticket
  generalize setL n16 = s0 at HO HSL HS
  generalize keyEnc n16 = e0 at HS HEL H1
  generalize keyTag n16 = t0 at HS HTL H2
  generalize keyTicket n16 = u0 at HS HUL H2 H3
  generalize keyLink n16 = l0 at HS HLL H3
  clear hT
  go_enter Tryd.func6, Tryd.ntmps6
  go_wp2_with (first
    | (refine wpList_valW (by rfl) (run_build_key rfl) ?_)
    | (refine Great.wpList_allocTo rfl _ rfl _ _ (HAC.out _ _ _ rfl) ?_)
    | (go_at_call 7; refine HO.out.mono ?_; rintro e w1 ⟨rfl, hb1⟩; have B1 := hid hb1; clear hb1)
    | (refine wpList_store_row rfl _ (.tmp 1) (.tmp 3) rfl w1.heap.size (ubs s0).toArray rfl rfl 29 (ubs n112).toArray (heap_alloc_new _ _) (sizeSet_of HSL.out) ?e5 (ubs_all _) ?e6; rotate_right; have A2 := hid (show At ((w1.alloc (.cells (ubs n112).toArray 29)).setRow w1.heap.size (ubs s0).toArray) w1.heap.size (ubs s0).toArray 29 from setRow_heap _ _ (ubs n112).toArray _ _ _ (At.new _ _ _)); have B2 := hid (B1.out.trans ((below_setRow ((Below.refl w1.heap.size w1).alloc (Nat.le_refl _) (.cells (ubs n112).toArray 29)) (Nat.le_refl _) (ubs s0).toArray).mono B1.out.size)); generalize ((w1.alloc (.cells (ubs n112).toArray 29)).setRow w1.heap.size (ubs s0).toArray) = w2 at A2 B2 ⊢)
    | (refine wpList_valW (by rfl) (run_loadK (.tmp 4) rfl w1.heap.size 0 rfl e0 (HS.out _ _ A2.out).1 HEL.out) ?_)
    | (refine wpList_valW (by rfl) (run_neqK _ (.tmp 5) (.tmp 6) rfl e0 n16 HEL.out n16_length rfl rfl true H1.out _) ?_)
    | (refine wpList_valW (by rfl) (run_loadH (.tmp 9) rfl w1.heap.size 16 rfl t0 (HS.out _ _ A2.out).2.1 HTL.out) ?_)
    | (refine wpList_valW (by rfl) (run_loadH (.tmp 11) rfl w1.heap.size 48 rfl u0 (HS.out _ _ A2.out).2.2.1 HUL.out) ?_)
    | (refine wpList_valW (by rfl) (run_neqH _ (.tmp 10) (.tmp 12) rfl t0 u0 HTL.out HUL.out rfl rfl true H2.out _) ?_)
    | (refine wpList_valW (by rfl) (run_loadH (.tmp 16) rfl w1.heap.size 48 rfl u0 (HS.out _ _ A2.out).2.2.1 HUL.out) ?_)
    | (refine wpList_valW (by rfl) (run_loadH (.tmp 18) rfl w1.heap.size 80 rfl l0 (HS.out _ _ A2.out).2.2.2 HLL.out) ?_)
    | (refine wpList_valW (by rfl) (run_neqH _ (.tmp 17) (.tmp 19) rfl u0 l0 HUL.out HLL.out rfl rfl true H3.out _) ?_))
  case e5 => simp [ubs_length, n112_length, HSL.out]
  go_ret
  exact ⟨rfl, B2.out⟩
end Go.Proofs.YtjfpdbhjbleffaaDoor
