/-
  Layer 9, the document's side: Root, Path.
-/
import Derived.Test.YthkbmpocfpbkoaaDoorTr9
namespace Go.Proofs.YthkbmpocfpbkoaaDoor
open Go.RowKit

set_option maxRecDepth 100000 in
set_option maxHeartbeats 1000000 in
theorem rootR_any (h : Nat) (hh : h ≤ 32) (L : List (Nat × List UInt8)) (E A : Option Addr) (cE c : Nat) (w : World) (ho : okL L) (hlen : L.length ≤ 1000) (hv : Lv w w.heap.size A L) (he : Ev w w.heap.size E) (hT : Tabr w) (hI : Tab w 1 IV.l) :
    Calls Tryd.prog 60 #[.agg #[.int .i64 (h : Int), .slice A L.length c, .slice E 33 cE]] w fun r w' => r = .returned (.agg (ubs (nodeS h 0 L)).toArray) ∧ Below w.heap.size w w' := by
  obtain ⟨T, hT'⟩ : ∃ T : Array Value, T = #[.int .i64 (h : Int), .slice A L.length c, .slice E 33 cE] := ⟨_, rfl⟩
  have H0 := hid (PtW.start w T)
  have HN := hid (fun (W : World) (b : Below w.heap.size w W) => nodeR_any h hh 0 (by omega) L h E A cE c W ho hlen ((hv.below b).mono b.size) ((Rd.below he b).mono b.size) (hT.below b) (Tab.below (x := IV.a) (xs := [IV.b, IV.c, IV.d, IV.e, IV.f, IV.g, IV.h]) hI b))
  have q0 : ((w.alloc (.cells T 28)).alloc (.cells (ubs n32).toArray 35)).cell? ⟨w.heap.size, 0, none⟩ = some (.int .i64 (h : Int)) := by rw [H0.out.t.cell, hT']; rfl
  have HSZ := hid (show (Tryd.prog.info? 28).map (·.size) = some T.size by rw [sizeTr, hT']; rfl)
  have HR := hid (nodeS_length h 0 L ho)
  generalize nodeS h 0 L = hr at HN HR ⊢
  rw [← hT'] at HN ⊢
  have hz := noughts32
  clear hh ho hlen hv he hT hI hT'
  go_enter Tryd.func60, Tryd.ntmps60
  go_wp2_with (first
    | (refine wpList_valW (by rfl) (run_loadTr (.tmp 1) rfl w.heap.size rfl T H0.out.t HSZ.out) ?_)
    | (go_at_call 21; refine (HN.out _ H0.out.below).mono ?_; rintro r5 w5 ⟨rfl, hb5⟩; have HW5 := hid (H0.out.new hb5); clear hb5)
    | (refine wpList_store_row rfl _ (.tmp 2) (.tmp 6) rfl (w.heap.size + 1) (ubs hr).toArray rfl rfl 35 (ubs n32).toArray HW5.out.r (sizeH_of HR.out) ?e5 (ubs_all _) ?e6; rotate_right))
  case e5 => simp [ubs_length, n32_length, HR.out]
  refine bodyPost_ret (results_cell_row rfl _ _ (w.heap.size + 1) 35 (ubs hr).toArray (0, 0) _ rfl (setRow_heap _ _ (ubs n32).toArray _ _ _ HW5.out.r) Tryd.underlying35 rfl (sizeH_of HR.out)) rfl ?_
  exact ⟨rfl, below_setRow HW5.out.below (by omega) _⟩
/-- A slice of hashes of the call's own, one behind the other. -/
def Ah (W : World) (base : Nat) (v : Value) (n : Nat) (bs : List UInt8) : Prop := W.ownsRow base 35 32 v n (ubs bs)
theorem Ah.nil (W : World) (base : Nat) : Ah W base (.slice none 0 0) 0 [] := World.ownsRow_nil _ _ _ _
theorem Ah.form {W : World} {base n : Nat} {v : Value} {bs : List UInt8} (h : Ah W base v n bs) : ∃ A c, v = .slice A n c := by
  rcases h.2 with ⟨h1, h2⟩ | ⟨g, cap, cur, e, -⟩
  · rw [h1, h2]
    exact ⟨_, _, rfl⟩
  · exact ⟨_, _, e⟩
theorem Ah.kept {W W' : World} {base n : Nat} {v : Value} {bs : List UInt8} (h : Ah W base v n bs) (hb : Below W.heap.size W W') : Ah W' base v n bs := by
  refine ⟨h.1, ?_⟩
  rcases h.2 with h2 | ⟨g, cap, cur, rfl, hb1, hh, r⟩
  · exact .inl h2
  · exact .inr ⟨g, cap, cur, rfl, hb1, (hb.block g (lt_of_block hh)).trans hh, r⟩
theorem Ah.lt {W : World} {base n : Nat} {v : Value} {bs : List UInt8} (h : Ah W base v n bs) : ∀ k, v.ownBlock = some k → base ≤ k ∧ k < W.heap.size := World.ownsRow.lt h
theorem Ah.rd {W : World} {base n c : Nat} {A : Option Addr} {bs : List UInt8} (h : Ah W base (.slice A n c) n bs) : Rd W W.heap.size A (ubs bs) := fun hne => by
  rcases h.2 with ⟨h1, h2⟩ | ⟨g, cap, cur, e, hb, hh, -⟩
  · refine absurd ?_ hne
    exact List.eq_nil_of_length_eq_zero (by have := h.1; rw [h2] at this; omega)
  · obtain rfl : A = some ⟨g, 0, none⟩ := by cases e; rfl
    refine ⟨g, 0, rfl, lt_of_block hh, fun j u hu => ?_⟩
    have := World.ownsRow.cells h (g := g) rfl j u hu
    rwa [add_plain] at this
/-- A hash is appended. -/
theorem wpList_append_h {ops : Array Oper} {rest : List Oper} {o : Oper} {a : Go.Act} {W : World} {Q : Exit → Go.Act → World → Prop} (hw : Region.wanted o (yielded ops a.tmps) = true) (s x : Operand)
    (ho : o.op = .call { callee := .builtin .append, args := #[s, x], argTypes := #[26, 26] })
    (base : Nat) (v : Value) (n : Nat) (bs : List UInt8) (hs : a.eval s = v) (hown : Ah W base v n bs) (q : Nat) (l : List UInt8) (hx : a.eval x = .slice (some ⟨q, 0, none⟩) 1 1) (hq : At W q (ubs l).toArray 35) (hp : l.length = 32) (hl : n ≤ 1000) (hbase : base ≤ W.heap.size)
    (h : ∀ A c w', Ah w' base (.slice A (n + 1) c) (n + 1) (bs ++ l) → W.grownBy w' v.ownBlock → wpList Tryd.prog ops Q rest (a.put o.dst (.slice A (n + 1) c)) w') :
    wpList Tryd.prog ops Q (o :: rest) a W :=
  BigFrame.wpList_want hw fun K hK => by
    obtain ⟨i, hi, hz, hsz, hby⟩ := info_parts infoH
    obtain ⟨v', w', hr, h2, h3, -, -⟩ := run_append_own_at (P := Tryd.prog) W base 26 o.type 35 i _ 32 32 Tryd.underlying26 hi hz hsz hby (by show (ubs n32).toArray.size = 32; rw [List.size_toArray, ubs_length]; exact n32_length) (by omega) v n (ubs bs) hown ⟨q, 0, none⟩ 1 1 (ubs l) (by rw [ubs_length, hp])
      (fun j u hu => by rw [add_plain, Nat.zero_add, hq.cell j, List.getElem?_toArray]; exact hu) (ubs_one l) (by unfold maxLen; omega) (by omega) hbase
    have h6 : Ah w' base v' (n + 1) (bs ++ l) := by
      unfold Ah
      rw [ubs_append]
      exact h2
    obtain ⟨A, c, rfl⟩ := h6.form
    unfold Oper.wp execOp
    simp only [ho, resolve, invoke, builtin, Sem.run_bind, Sem.run_pure, Result.andThen_ok, List.map_toArray, List.map_cons, List.map_nil, hs, hx, hr]
    exact hK _ _ (h A c w' h6 h3)
/-- The node beside that above an index, on a level; all of them, one behind the other. -/
def sibN (k i : Nat) : Nat := if (i >>> k) % 2 = 0 then i >>> k + 1 else i >>> k - 1
def pathS (L : List (Nat × List UInt8)) (i : Nat) : Nat → List UInt8
  | 0 => []
  | k + 1 => pathS L i k ++ nodeS k (sibN k i) L
theorem pathS_succ (L : List (Nat × List UInt8)) (i k : Nat) : pathS L i (k + 1) = pathS L i k ++ nodeS k (sibN k i) L := rfl
theorem sibN_lt {k i : Nat} (hi : i < 18446744073709551616) : sibN k i < 18446744073709551616 := by
  have h : i >>> k ≤ i := by rw [Nat.shiftRight_eq_div_pow]; exact Nat.div_le_self _ _
  unfold sibN
  split <;> omega
attribute [irreducible] pathS
/-- What holds in Path. -/
structure PhW (w : World) (T : Array Value) (v : Value) (n : Nat) (bs : List UInt8) (W : World) : Prop where
  t : At W w.heap.size T 28
  a : Ah W (w.heap.size + 1) v n bs
  below : Below w.heap.size w W
section
variable {w W W' : World} {T : Array Value} {v v' : Value} {n : Nat} {bs l : List UInt8}
theorem PhW.new (h : PhW w T v n bs W) (hb : Below W.heap.size W W') : PhW w T v n bs W' := ⟨h.t.new_ hb, h.a.kept hb, h.below.trans (hb.mono h.below.size)⟩
theorem PhW.start (w : World) (T : Array Value) : PhW w T (.slice none 0 0) 0 [] (w.alloc (.cells T 28)) := ⟨At.new _ _ _, Ah.nil _ _, (Below.refl w.heap.size w).alloc (Nat.le_refl _) _⟩
theorem PhW.big (h : PhW w T v n bs W) : w.heap.size + 1 ≤ W.heap.size := by have := h.t.lt; omega
theorem PhW.push {o : Obj} (h : PhW w T v n bs W) (ha : Ah W' (w.heap.size + 1) v' (n + 1) (bs ++ l)) (hg : (W.alloc o).grownBy W' v.ownBlock) : PhW w T v' (n + 1) (bs ++ l) W' := by
  have hn := h.new ((Below.refl W.heap.size W).alloc (Nat.le_refl _) o)
  refine ⟨hn.t.grown hg (fun e => ?_), ha, hn.below.grown hg hn.below.size (fun k hk => by have := (h.a.lt k hk).1; omega)⟩
  have := (h.a.lt _ e).1
  omega
end
set_option maxRecDepth 100000 in
set_option maxHeartbeats 2000000 in
theorem pathR_any (h : Nat) (hh : h ≤ 32) (i : Nat) (hi : i < 18446744073709551616) (L : List (Nat × List UInt8)) (E A : Option Addr) (cE c : Nat) (w : World) (ho : okL L) (hlen : L.length ≤ 1000) (hv : Lv w w.heap.size A L) (he : Ev w w.heap.size E) (hT : Tabr w) (hI : Tab w 1 IV.l) :
    Calls Tryd.prog 25 #[.agg #[.int .i64 (h : Int), .slice A L.length c, .slice E 33 cE], .int .u64 (i : Int)] w fun r w' => ∃ A1 c1, r = .returned (.slice A1 h c1) ∧ Rd w' w'.heap.size A1 (ubs (pathS L i h)) ∧ Below w.heap.size w w' := by
  obtain ⟨T, hT'⟩ : ∃ T : Array Value, T = #[.int .i64 (h : Int), .slice A L.length c, .slice E 33 cE] := ⟨_, rfl⟩
  have H0 := hid (PhW.start w T)
  have HQ := hid (fun (W : World) (hA : At W w.heap.size T 28) => show W.cell? ⟨w.heap.size, 0, none⟩ = some (.int .i64 (h : Int)) by rw [hA.cell, hT']; rfl)
  have HN := hid (fun (W : World) (k : Nat) (hk : k < h) (b : Below w.heap.size w W) => nodeR_any k (by omega) (sibN k i) (sibN_lt hi) L h E A cE c W ho hlen ((hv.below b).mono b.size) ((Rd.below he b).mono b.size) (hT.below b) (Tab.below (x := IV.a) (xs := [IV.b, IV.c, IV.d, IV.e, IV.f, IV.g, IV.h]) hI b))
  have HSZ := hid (show (Tryd.prog.info? 28).map (·.size) = some T.size by rw [sizeTr, hT']; rfl)
  have HL := hid (fun k pl => nodeS_length k pl L ho)
  have HI := hid hi
  have HH := hid hh
  rw [← hT'] at HN ⊢
  clear hh hi ho hlen hv he hT hI hT'
  go_enter Tryd.func25, Tryd.ntmps25
  go_wp2
  go_loopw [5, 6, 7] (fun v5 v6 _ wr => ∃ (k : Nat) (A1 : Option Addr) (c1 : Nat), k ≤ h ∧ v6 = .int .i64 (k : Int) ∧ v5 = .slice A1 k c1 ∧ PhW w T (.slice A1 k c1) k (pathS L i k) wr) (fun _ v6 _ _ => h - (intOf v6).toNat)
  case atStart => exact ⟨0, none, 0, by omega, rfl, rfl, by unfold pathS; exact H0.out⟩
  case round =>
    clear H0
    obtain ⟨k, A1, c1, hk, rfl, rfl, hW⟩ := hrel
    have HW := hid hW
    clear hW
    have q0 := HQ.out _ HW.out.t
    by_cases hlt : k < h
    · have e1 : decide ((k : Int) < (h : Int)) = true := by simp; omega
      have e1' : decide (k < h) = true := by simp; omega
      have uk : IntKind.u64.wrap (k : Int) = (k : Int) := by have := HH.out; simp [IntKind.wrap, IntKind.signed, IntKind.bits]; omega
      have wk : IntKind.i64.wrap ((k : Int) + 1) = ((k + 1 : Nat) : Int) := by have := HH.out; simp [IntKind.wrap, IntKind.signed, IntKind.bits]; omega
      have hs := shr_u64 33 i k .u64 (by have := HH.out; omega)
      have HNK := hid (fun W b => HN.out W k hlt b)
      have HLK := hid (HL.out k (sibN k i))
      have hsl : i >>> k < 18446744073709551616 := by
        have h1 : i >>> k ≤ i := by rw [Nat.shiftRight_eq_div_pow]; exact Nat.div_le_self _ _
        have := HI.out
        omega
      have hsib : sibN k i = if (i >>> k) % 2 = 0 then i >>> k + 1 else i >>> k - 1 := rfl
      have HPS := hid (pathS_succ L i k)
      generalize nodeS k (sibN k i) L = nk at HNK HLK HPS
      generalize sibN k i = sb at HNK hsib
      generalize i >>> k = s at hs hsl hsib
      have HK1 := hid (show k + 1 ≤ h by omega)
      have hm : ((s : Int)).tmod 2 = ((s % 2 : Nat) : Int) := by rw [Int.tmod_eq_emod_of_nonneg (by omega)]; omega
      obtain ⟨b, hb⟩ : ∃ b, b = s % 2 := ⟨_, rfl⟩
      rw [← hb] at hm hsib
      have hK : k ≤ 1000 := by have := HH.out; omega
      have HKK := hid hK
      by_cases hc : b = 0
      · have f0 : decide ((b : Int) = 0) = true := by simp; omega
        have f0b : ((b : Int) == 0) = true := by simp; omega
        have f0n : decide (b = 0) = true := by simp; omega
        rw [if_pos hc] at hsib
        have ws : IntKind.u64.wrap ((s : Int) + 1) = (sb : Int) := by simp [IntKind.wrap, IntKind.signed, IntKind.bits]; omega
        clear hsl hsib hb hc hk hlt hK
        go_wp2_with (first
          | (refine wpList_valW (by rfl) (run_loadTr (.tmp 2) rfl w.heap.size rfl T HW.out.t HSZ.out) ?_)
          | (go_at_call 21; refine (HNK.out _ HW.out.below).mono ?_; rintro r5 w5 ⟨rfl, hb5⟩; have HW5 := hid (HW.out.new hb5); clear hb5)
          | (refine wpList_valW (by rfl) (run_buildH (.tmp 29) rfl nk HLK.out rfl) ?_)
          | (refine wpList_append_h (by rfl) (.tmp 25) (.tmp 30) rfl (w.heap.size + 1) (.slice A1 k c1) k (pathS L i k) rfl (HW5.out.a.kept ((Below.refl _ _).alloc (Nat.le_refl _) _)) w5.heap.size nk rfl (At.new _ _ _) HLK.out HKK.out (by have := HW5.out.big; simp; omega) ?_; intro A3 c3 w3 h1 h2; have HW3 := hid (HW5.out.push h1 h2); clear h1 h2))
        exact ⟨⟨k + 1, A3, c3, HK1.out, by go_num, by go_num, by rw [HPS.out]; exact HW3.out⟩, by have := HK1.out; simp [intOf]; omega⟩
      · have f0 : decide ((b : Int) = 0) = false := by simp; omega
        have f0b : ((b : Int) == 0) = false := by simp; omega
        have f0n : decide (b = 0) = false := by simp; omega
        rw [if_neg hc] at hsib
        have ws : IntKind.u64.wrap ((s : Int) - 1) = (sb : Int) := by simp [IntKind.wrap, IntKind.signed, IntKind.bits]; omega
        clear hsl hsib hb hc hk hlt hK
        go_wp2_with (first
          | (refine wpList_valW (by rfl) (run_loadTr (.tmp 2) rfl w.heap.size rfl T HW.out.t HSZ.out) ?_)
          | (go_at_call 21; refine (HNK.out _ HW.out.below).mono ?_; rintro r5 w5 ⟨rfl, hb5⟩; have HW5 := hid (HW.out.new hb5); clear hb5)
          | (refine wpList_valW (by rfl) (run_buildH (.tmp 29) rfl nk HLK.out rfl) ?_)
          | (refine wpList_append_h (by rfl) (.tmp 25) (.tmp 30) rfl (w.heap.size + 1) (.slice A1 k c1) k (pathS L i k) rfl (HW5.out.a.kept ((Below.refl _ _).alloc (Nat.le_refl _) _)) w5.heap.size nk rfl (At.new _ _ _) HLK.out HKK.out (by have := HW5.out.big; simp; omega) ?_; intro A3 c3 w3 h1 h2; have HW3 := hid (HW5.out.push h1 h2); clear h1 h2))
        exact ⟨⟨k + 1, A3, c3, HK1.out, by go_num, by go_num, by rw [HPS.out]; exact HW3.out⟩, by have := HK1.out; simp [intOf]; omega⟩
    · obtain rfl : k = h := by omega
      have e1 : decide ((k : Int) < (k : Int)) = false := by simp
      clear hk hlt
      go_wp2
      go_ret
      exact ⟨A1, c1, rfl, HW.out.a.rd, HW.out.below⟩
end Go.Proofs.YthkbmpocfpbkoaaDoor
