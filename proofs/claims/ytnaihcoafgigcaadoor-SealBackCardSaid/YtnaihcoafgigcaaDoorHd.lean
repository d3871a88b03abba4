/-
  The program's tag.
-/
import Derived.Test.YtnaihcoafgigcaaDoorY6
import Derived.Test.YtnaihcoafgigcaaDoorY1
namespace Go.Proofs.YtnaihcoafgigcaaDoor
open Go.RowKit

theorem infoS : (Tryd.prog.info? 55).map (fun i => (i.zero, i.size, i.bytes)) = some (some (.slice none 0 0), 1, 24) := by kernel_rfl
theorem joined_cons (p : Part) (ps : List Part) : joined (p :: ps) = p.bs ++ joined ps := by unfold joined; simp
theorem joined_one (p : Part) : joined [p] = p.bs := by unfold joined; simp
theorem joined_two (p q : Part) : joined [p, q] = p.bs ++ q.bs := by unfold joined; simp
theorem joined_none : joined [] = [] := by unfold joined; rfl
theorem parts_one (ps : List Part) : ∀ u ∈ ps.map Part.v, u.oneCell' = true := by
  intro u hu
  obtain ⟨p, _, rfl⟩ := List.mem_map.1 hu
  rfl
/-- A literal of one element is the call's own. -/
theorem own_lit (w : World) (v : Value) (t : TypeId) : (w.alloc (.cells #[v] t)).ownsRow w.heap.size t 1 (.slice (some ⟨w.heap.size, 0, none⟩) 1 1) 1 [v] :=
  ⟨rfl, .inr ⟨w.heap.size, 1, #[v], rfl, Nat.le_refl _, heap_alloc_new w _, Nat.le_refl _, by simp [maxLen], rfl, rfl⟩⟩
theorem masked54 (b : List UInt8) (hb : b.length = 64) (w : World) :
    Calls Tryd.prog 61 #[.agg (ubs b).toArray, .int .u8 54] w fun e w' => e = .returned (.slice (some ⟨w.heap.size, 0, none⟩) 64 64) ∧ At w' w.heap.size (ubs (maskL b 54)).toArray 120 ∧ Below w.heap.size w w' := masked_any b hb 54 w
theorem masked92 (b : List UInt8) (hb : b.length = 64) (w : World) :
    Calls Tryd.prog 61 #[.agg (ubs b).toArray, .int .u8 92] w fun e w' => e = .returned (.slice (some ⟨w.heap.size, 0, none⟩) 64 64) ∧ At w' w.heap.size (ubs (maskL b 92)).toArray 120 ∧ Below w.heap.size w w' := masked_any b hb 92 w
/-- What holds while a tag is made: its result, the parts. -/
structure MaW (w : World) (S : Option Addr) (ps : List Part) (W : World) : Prop where
  res : At W w.heap.size (ubs n32).toArray 61
  rs : Rd W W.heap.size S (ps.map Part.v)
  rp : ∀ p ∈ ps, Rb W W.heap.size p.A p.bs
  below : Below w.heap.size w W
theorem MaW.next {w W W' : World} {S : Option Addr} {ps : List Part} (h : MaW w S ps W) (hb : Below W.heap.size W W') : MaW w S ps W' :=
  ⟨h.res.new_ hb, (h.rs.below hb).mono hb.size, fun p hp => ((h.rp p hp).below hb).mono hb.size, h.below.trans (hb.mono h.below.size)⟩
/-- Beside: the block key in a block of its own. -/
structure MbW (w : World) (S : Option Addr) (ps : List Part) (b : List UInt8) (C : Nat) (W : World) : Prop where
  ma : MaW w S ps W
  blk : At W C (ubs b).toArray 120
theorem MbW.next {w W W' : World} {S : Option Addr} {ps : List Part} {b : List UInt8} {C : Nat} (h : MbW w S ps b C W) (hb : Below W.heap.size W W') : MbW w S ps b C W' :=
  ⟨h.ma.next hb, h.blk.new_ hb⟩
theorem MbW.start {w W : World} {S : Option Addr} {ps : List Part} (h : MaW w S ps W) (b : List UInt8) : MbW w S ps b W.heap.size ((W.alloc (.cells (ubs n64).toArray 120)).setRow W.heap.size (ubs b).toArray) :=
  ⟨h.next (below_setRow ((Below.refl _ _).alloc (Nat.le_refl _) _) (Nat.le_refl _) _), setRow_heap _ _ (ubs n64).toArray _ _ _ (At.new _ _ _)⟩
/-- Beside: a hash in a block of its own. -/
structure McW (w : World) (S : Option Addr) (ps : List Part) (b : List UInt8) (C : Nat) (h : List UInt8) (D : Nat) (W : World) : Prop where
  mb : MbW w S ps b C W
  hsh : At W D (ubs h).toArray 61
theorem McW.next {w W W' : World} {S : Option Addr} {ps : List Part} {b h : List UInt8} {C D : Nat} (k : McW w S ps b C h D W) (hb : Below W.heap.size W W') : McW w S ps b C h D W' :=
  ⟨k.mb.next hb, k.hsh.new_ hb⟩
theorem McW.drew {w W : World} {S : Option Addr} {ps : List Part} {b h : List UInt8} {C D : Nat} (k : McW w S ps b C h D W) : McW w S ps b C h D W.drew :=
  ⟨⟨⟨k.mb.ma.res, k.mb.ma.rs, k.mb.ma.rp, k.mb.ma.below.os, k.mb.ma.below.tape, k.mb.ma.below.output, k.mb.ma.below.size, k.mb.ma.below.block⟩, k.mb.blk⟩, k.hsh⟩
theorem McW.start {w W : World} {S : Option Addr} {ps : List Part} {b : List UInt8} {C : Nat} (k : MbW w S ps b C W) (h : List UInt8) : McW w S ps b C h W.heap.size ((W.alloc (.cells (ubs n32).toArray 61)).setRow W.heap.size (ubs h).toArray) :=
  ⟨k.next (stored_below W h), stored_at W h⟩
/-- One part ahead of others, in a row of its own. -/
theorem MbW.lit {w W : World} {S : Option Addr} {ps : List Part} {b : List UInt8} {C : Nat} (h : MbW w S ps b C W) (v : Value) : MbW w S ps b C (W.alloc (.cells #[v] 55)) :=
  h.next ((Below.refl _ _).alloc (Nat.le_refl _) _)
/-- A literal of parts as it lies. -/
theorem rd_parts (w : World) (ps : List Part) : Rd (w.alloc (.cells (ps.map Part.v).toArray 55)) (w.alloc (.cells (ps.map Part.v).toArray 55)).heap.size (some ⟨w.heap.size, 0, none⟩) (ps.map Part.v) :=
  Rd.of_at (At.new w _ 55) 0 (fun j u hj => by rw [Nat.zero_add, List.getElem?_toArray]; exact hj) (by simp)
theorem lit_grown {w w' : World} {v : Value} {t : TypeId} (hg : (w.alloc (.cells #[v] t)).grownBy w' (Value.ownBlock (.slice (some ⟨w.heap.size, 0, none⟩) 1 1))) : Below w.heap.size w w' :=
  ((Below.refl _ _).alloc (Nat.le_refl _) _).grown hg (by simp) (fun k hk => by simp [Value.ownBlock] at hk; omega)
/-- The block key's copy as a part. -/
def kp (g : Nat) (b : List UInt8) (m : UInt8) : Part := ⟨some ⟨g, 0, none⟩, maskL b m, 64⟩
theorem kp_v (g : Nat) (b : List UInt8) (m : UInt8) (h : b.length = 64) : (kp g b m).v = .slice (some ⟨g, 0, none⟩) 64 64 := by
  unfold kp Part.v
  rw [maskL_length, h]
set_option maxRecDepth 100000 in
set_option maxHeartbeats 8000000 in
theorem mac_any (k : List UInt8) (K : Option Addr) (ck : Nat) (ps : List Part) (S : Option Addr) (cap : Nat) (w : World) (hk : Rb w w.heap.size K k) (hS : Rd w w.heap.size S (ps.map Part.v)) (hP : ∀ p ∈ ps, Rb w w.heap.size p.A p.bs)
    (lk : k.length ≤ 1000000000) (hlen : (joined ps).length ≤ 900000000) (hps : ps.length ≤ 900000000) (hT : Tabs w) :
    Calls Tryd.prog 43 #[.slice K k.length ck, .slice S ps.length cap] w fun e w' => e = .returned (.agg (ubs (macL k (joined ps))).toArray) ∧ Below w.heap.size w w' := by
  obtain ⟨i0, hi, hz0, hz1, hz2⟩ := info_parts infoS
  obtain ⟨W0, hW0⟩ : ∃ W0, W0 = w.alloc (.cells (ubs n32).toArray 61) := ⟨_, rfl⟩
  have hb0 : Below w.heap.size w W0 := by rw [hW0]; exact (Below.refl _ _).alloc (Nat.le_refl _) _
  have h0 : MaW w S ps W0 := ⟨by rw [hW0]; exact At.new _ _ _, (hS.below hb0).mono hb0.size, fun p hp => ((hP p hp).below hb0).mono hb0.size, hb0⟩
  have hbk := block_any k K ck W0 ((hk.below hb0).mono hb0.size) lk (hT.below hb0)
  have HT := hid hT
  have H0 := hid h0
  obtain ⟨b, hb⟩ : ∃ b, b = blockL k := ⟨_, rfl⟩
  have HBL := hid (show b.length = 64 by rw [hb, blockL_length])
  have HM := hid (macL_eq k (joined ps))
  rw [← hb] at hbk HM
  have HBK := hid hbk
  have hzz := noughts64
  have hz32 := noughts32
  have HZ := hid (show (Tryd.prog.info? 120).map (·.size) = some (ubs b).toArray.size by rw [sizeB64']; simp [ubs_length, HBL.out])
  have HS := hid (fun h => show (Tryd.prog.info? 61).map (·.size) = some (ubs (hashL h)).toArray.size by rw [sizeH]; simp [ubs_length, hashL_length])
  have HK := hid (fun h => hashL_length h)
  obtain ⟨n, hn⟩ : ∃ n, n = ps.length := ⟨_, rfl⟩
  obtain ⟨l, hl⟩ : ∃ l, l = k.length := ⟨_, rfl⟩
  have HN := hid hn
  have HLN := hid hlen
  rw [← hn] at hps ⊢
  rw [← hl] at HBK ⊢
  clear hb0 h0 hbk hk hS hP hT hb hn hl hlen lk
  have tok : Hid True := trivial
  subst hW0
  go_enter Tryd.func43, Tryd.ntmps43
  go_wp2_with (first
    | (go_at_call 59; refine HBK.out.mono ?_; rintro e w1 ⟨rfl, hb1⟩; have H1 := hid (H0.out.next hb1); clear hb1)
    | (refine wpList_store_row rfl _ (.tmp 5) (.tmp 8) rfl w1.heap.size (ubs b).toArray rfl rfl 120 (ubs n64).toArray (heap_alloc_new _ _) HZ.out ?e1 (ubs_all _) ?e2; rotate_right; have H2 := hid (MbW.start H1.out b); generalize ((w1.alloc (.cells (ubs n64).toArray 120)).setRow w1.heap.size (ubs b).toArray) = W2 at H2 ⊢)
    | (refine wpList_load_row rfl _ (.tmp 5) rfl w1.heap.size rfl 120 (ubs b).toArray (0, 0) _ H2.out.blk Tryd.underlying120 rfl HZ.out ?_)
    | (go_at_call 61; refine (masked54 b HBL.out W2).mono ?_; rintro e w3 ⟨rfl, hA3, hb3⟩; have H3 := hid (H2.out.next hb3); have L3 := hid ((H2.out.next hb3).lit (.slice (some ⟨W2.heap.size, 0, none⟩) 64 64)); have A3 := hid (rb_at hA3); clear hA3 hb3; have O3 := hid (own_lit w3 (.slice (some ⟨W2.heap.size, 0, none⟩) 64 64) 55))
    | (at_builtin; refine wpList_append_rd rfl (.tmp 11) (.tmp 12) _ rfl w3.heap.size 55 i0 (.slice none 0 0) 24 Tryd.underlying101 hi hz0 hz1 hz2 rfl (.slice (some ⟨w3.heap.size, 0, none⟩) 1 1) 1 [.slice (some ⟨W2.heap.size, 0, none⟩) 64 64] rfl O3.out _ S n cap (ps.map Part.v) rfl (by rw [List.length_map, HN.out]) L3.out.ma.rs (parts_one ps) (by unfold maxLen; omega) (by omega) (by simp) ?_; intro v4 w4 hown4 hgr4 _; (have b4 := lit_grown hgr4); have H4 := hid (H3.out.next b4); have A4 := hid ((A3.out.below b4).mono b4.size); clear hgr4 b4 L3 O3; obtain ⟨S4, c4, rfl, -⟩ := own_form hown4; have R4 := hid (Rd.of_own hown4); clear hown4)
    | (go_at_call 60; have _t := tok; clear tok _t; (have cq := of_any (kp W2.heap.size b 54 :: ps) S4 c4 w4 (by rw [List.map_cons, kp_v _ _ _ HBL.out]; exact R4.out) (by intro p hp; rcases List.mem_cons.1 hp with rfl | hp; exact A4.out; exact H4.out.ma.rp p hp) (by rw [joined_cons, List.length_append]; show (maskL b 54).length + _ ≤ _; rw [maskL_length, HBL.out]; have := HLN.out; omega) (by rw [List.length_cons, ← HN.out]; omega) (HT.out.below H4.out.ma.below)); rw [joined_cons, List.length_cons, ← HN.out, Nat.add_comm n 1] at cq; refine cq.mono ?_; clear cq; rintro e w5 ⟨rfl, hb5⟩; have H5 := hid (H4.out.next hb5); clear hb5)
    | (refine wpList_store_row rfl _ (.tmp 6) (.tmp 14) rfl w5.heap.size (ubs (hashL (maskL b 54 ++ joined ps))).toArray rfl rfl 61 (ubs n32).toArray (heap_alloc_new _ _) (HS.out _) ?e3 (ubs_all _) ?e4; rotate_right; have H6 := hid (McW.start H5.out (hashL (maskL b 54 ++ joined ps))); generalize ((w5.alloc (.cells (ubs n32).toArray 61)).setRow w5.heap.size (ubs (hashL (maskL b 54 ++ joined ps))).toArray) = W6 at H6 ⊢))
  case e1 => simp [ubs_length, n64_length, HBL.out]
  case e3 => simp [ubs_length, n32_length, HK.out]
  have H6d := hid H6.out.drew
  clear H6 H5 H4 A4 R4 A3 H3 H2 H1 HBK H0
  refine wp_region_upto (McW w S ps b w1.heap.size (hashL (maskL b 54 ++ joined ps)) w5.heap.size) 5 6 (by kernel_rfl) (by kernel_rfl) ?_
  generalize W6.drew = V0 at H6d ⊢
  refine wpUpto_take (i := 0) (v := .agg (ubs b).toArray) rfl (by kernel_rfl) (by kernel_rfl) (by kernel_rfl) (by kernel_rfl) (by decide) (fun _ _ _ h => h) (Or.inl ⟨by rfl, ?_⟩) H6d.out ?_
  · (intro W hSW; refine run_load_row _ (.tmp 5) ?_ w1.heap.size ?_ 120 (ubs b).toArray _ hSW.mb.blk Tryd.underlying120 rfl HZ.out <;> rfl)
  refine wpUpto_take (i := 2) (v := .slice (some ⟨w5.heap.size, 0, none⟩) 32 32) rfl (by kernel_rfl) (by kernel_rfl) (by kernel_rfl) (by kernel_rfl) (by decide) (fun _ _ _ h => h) (Or.inl ⟨by rfl, ?_⟩) H6d.out ?_
  · (intro W hSW; go_simp)
  simp only [Act.put, List.setIfInBounds_toArray]
  refine wpUpto_one (i := 1) rfl (by kernel_rfl) rfl ?_
  intro K0 hK0
  go_simp
  go_at_call 61
  refine (masked92 b HBL.out V0).mono ?_
  rintro e w7 ⟨rfl, hA7, hb7⟩
  have H7 := hid (H6d.out.next hb7)
  have A7 := hid (rb_at hA7)
  clear hA7 hb7
  refine hK0.out _ _ (fun _ => H7.out) ?_
  clear hK0 K0
  refine wpUpto_one (i := 3) rfl (by kernel_rfl) rfl ?_
  intro K0 hK0
  go_simp
  have b8 : Below w7.heap.size w7 (w7.alloc (.cells #[.slice (some ⟨V0.heap.size, 0, none⟩) 64 64, .slice (some ⟨w5.heap.size, 0, none⟩) 32 32] 55)) := (Below.refl _ _).alloc (Nat.le_refl _) _
  have H8 := hid (H7.out.next b8)
  have A8 := hid ((A7.out.below b8).mono b8.size)
  have P8 := hid (show (#[.slice (some ⟨V0.heap.size, 0, none⟩) 64 64, .slice (some ⟨w5.heap.size, 0, none⟩) 32 32] : Array Value) = ([kp V0.heap.size b 92, ⟨some ⟨w5.heap.size, 0, none⟩, hashL (maskL b 54 ++ joined ps), 32⟩].map Part.v).toArray by
    simp only [List.map_cons, List.map_nil, kp_v _ _ _ HBL.out]
    unfold Part.v
    rw [HK.out])
  refine hK0.out _ _ (fun _ => H8.out) ?_
  clear hK0 K0 b8
  refine wpUpto_one (i := 4) rfl (by kernel_rfl) rfl ?_
  intro K0 hK0
  go_simp
  go_at_call 60
  have cq := of_any [kp V0.heap.size b 92, ⟨some ⟨w5.heap.size, 0, none⟩, hashL (maskL b 54 ++ joined ps), 32⟩] (some ⟨w7.heap.size, 0, none⟩) 2 (w7.alloc (.cells #[.slice (some ⟨V0.heap.size, 0, none⟩) 64 64, .slice (some ⟨w5.heap.size, 0, none⟩) 32 32] 55))
    (by rw [P8.out]; exact rd_parts w7 _) (by intro p hp; simp only [List.mem_cons, List.not_mem_nil, or_false] at hp; rcases hp with rfl | rfl; exact A8.out; exact rb_at H8.out.hsh)
    (by rw [joined_two, List.length_append]; show (maskL b 92).length + (hashL _).length ≤ _; rw [maskL_length, HBL.out, HK.out]; omega) (by simp) (HT.out.below H8.out.mb.ma.below)
  rw [joined_two] at cq
  refine cq.mono ?_
  clear cq
  rintro e w9 ⟨rfl, hb9⟩
  have H9 := hid (H8.out.next hb9)
  clear hb9
  refine hK0.out _ _ (fun _ => H9.out) ?_
  clear hK0 K0
  refine wpUpto_one (i := 5) rfl (by kernel_rfl) rfl ?_
  intro K0 hK0
  refine wp_store_row _ (.tmp 4) (.tmp 19) rfl w.heap.size (ubs (macL k (joined ps))).toArray ?_ ?_ 61 (ubs n32).toArray H9.out.mb.ma.res ?_ ?_ (ubs_all _) ?_
  · rfl
  · rw [HM.out]; rfl
  · rw [HM.out]; exact HS.out _
  · simp [ubs_length, n32_length, macL_length]
  refine hK0.out _ _ (fun h => absurd rfl h) ?_
  clear hK0 K0
  refine wpUpto_done (by kernel_rfl) ?_ _
  go_simp
  go_wp2
  refine bodyPost_ret (results_cell_row rfl _ _ w.heap.size 61 (ubs (macL k (joined ps))).toArray (0, 0) _ rfl (setRow_heap _ _ _ _ _ _ H9.out.mb.ma.res) Tryd.underlying61 rfl (by rw [HM.out]; exact HS.out _)) rfl ?_
  exact ⟨rfl, below_setRow H9.out.mb.ma.below (Nat.le_refl _) _⟩
end Go.Proofs.YtnaihcoafgigcaaDoor
