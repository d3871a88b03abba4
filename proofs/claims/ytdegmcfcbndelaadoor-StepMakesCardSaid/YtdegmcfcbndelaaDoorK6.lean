/-
  Layer 10, the document's side: slices of indices of the call's own: appended to, cut.
  A number shifted to the left. Nothing here speaks of the program.
  Layer 10, the program's side: the walk down to some indices, whatever it reports to.
  Layer 10, the document's side: whether indices are such for a height.
  Layer 10, the document's side: Right.
  Layer 10, the program's side: whether indices are such for a height; whether a tree has them.
  Layer 10, the program's side: Count.
-/
import Derived.Test.YtdegmcfcbndelaaDoorK1
import Derived.Maps.AppendAt
import Derived.Laws.OwnMore
import Derived.Deep.Upon
import Derived.Deep.AppendLies
import Derived.Great.BuildSlice
import Derived.Test.YtdegmcfcbndelaaDoorY1
import Derived.Test.YtdegmcfcbndelaaDoorK4
import Derived.Test.YtdegmcfcbndelaaDoorL3
namespace Go.Proofs.YtdegmcfcbndelaaDoor
open Go.RowKit

theorem infoU : (Tryd.prog.info? 23).map (fun i => (i.zero, i.size, i.bytes)) = some (some (.int .u64 0), 1, 8) := by kernel_rfl
theorem infoU_parts : ∃ i, Tryd.prog.info? 23 = some i ∧ i.zero = some (.int .u64 0) ∧ i.size = 1 ∧ i.bytes = 8 := by
  have := infoU
  cases h : Tryd.prog.info? 23 with
  | none => rw [h] at this; cases this
  | some ie =>
    rw [h] at this
    simp only [Option.map_some, Option.some.injEq, Prod.mk.injEq] at this
    exact ⟨ie, rfl, this.1, this.2.1, this.2.2⟩
theorem nus_take (L : List Nat) (k : Nat) : nus (L.take k) = (nus L).take k := by simp [nus, List.map_take]
theorem nus_drop (L : List Nat) (k : Nat) : nus (L.drop k) = (nus L).drop k := by simp [nus, List.map_drop]
/-- A slice of indices of the call's own. -/
def Aun (W : World) (base : Nat) (v : Value) (L : List Nat) : Prop := W.ownsRow base 23 1 v L.length (nus L)
section
variable {W W' : World} {base : Nat} {v : Value} {L : List Nat}
theorem Aun.nil (W : World) (base : Nat) : Aun W base (.slice none 0 0) [] := World.ownsRow_nil _ _ _ _
theorem Aun.form (h : Aun W base v L) : ∃ A c, v = .slice A L.length c := by
  rcases h.2 with ⟨h1, h2⟩ | ⟨g, cap, cur, e, -⟩
  · rw [h1, h2]
    exact ⟨_, _, rfl⟩
  · exact ⟨_, _, e⟩
theorem Aun.kept (h : Aun W base v L) (hb : Below W.heap.size W W') : Aun W' base v L := by
  refine ⟨h.1, ?_⟩
  rcases h.2 with h2 | ⟨g, cap, cur, rfl, hb1, hh, r⟩
  · exact .inl h2
  · exact .inr ⟨g, cap, cur, rfl, hb1, (hb.block g (lt_of_block hh)).trans hh, r⟩
theorem Aun.lt (h : Aun W base v L) : ∀ k, v.ownBlock = some k → base ≤ k ∧ k < W.heap.size := World.ownsRow.lt h
/-- Indices that are appended. -/
def SrcU (W : World) (v : Value) (M : List Nat) : Prop := (v = .slice none 0 0 ∧ M = []) ∨ ∃ g o c, v = .slice (some ⟨g, o, none⟩) M.length c ∧ Nu W W.heap.size (some ⟨g, o, none⟩) M
theorem SrcU.new {M : List Nat} (h : SrcU W v M) (hb : Below W.heap.size W W') : SrcU W' v M := by
  rcases h with h | ⟨g, o, c, e, r⟩
  · exact .inl h
  · exact .inr ⟨g, o, c, e, Nu.new r hb⟩
theorem SrcU.cells {g o : Nat} {M : List Nat} (h : Nu W W.heap.size (some ⟨g, o, none⟩) M) : ∀ j u, (nus M)[j]? = some u → W.cell? ((⟨g, o, none⟩ : Addr).add j) = some u := fun j u hu => by
  obtain ⟨g', o', e, -, r⟩ := h (by intro e; rw [e] at hu; cases hu)
  cases e
  have := r j u hu
  rw [add_plain]
  exact this
end
end Go.Proofs.YtdegmcfcbndelaaDoor

namespace Go.Proofs.YtdegmcfcbndelaaDoor
open Go.RowKit

theorem shl_u64 (t : TypeId) (a j : Nat) (k : IntKind) (h : a * 2 ^ j < 18446744073709551616) (hj : j ≤ 64) : binOp .shl t (.int .u64 (a : Int)) (.int k (j : Int)) = pure (.int .u64 ((a * 2 ^ j : Nat) : Int)) := by
  simp only [binOp]
  unfold Op.shift
  rw [if_neg (by omega)]
  simp only
  congr 2
  show IntKind.u64.wrap ((a : Int) * 2 ^ (min (j : Int).toNat 64)) = _
  have e : (a : Int) * 2 ^ (min (j : Int).toNat 64) = ((a * 2 ^ j : Nat) : Int) := by
    rw [Int.toNat_natCast, Nat.min_eq_left hj, Int.natCast_mul, Int.natCast_pow]
    rfl
  rw [e, IntKind.wrap_u64]
  omega
end Go.Proofs.YtdegmcfcbndelaaDoor

namespace Go.Proofs.YtdegmcfcbndelaaDoor
open Go.RowKit

theorem run_in_to (g o n c k : Nat) (hk : k ≤ c) (V : World) : (Instr.slice 58 (.slice (some ⟨g, o, none⟩) n c) none (some (.int .i64 (k : Int))) none).run Tryd.prog V = .ok (.slice (some ⟨g, o, none⟩) k c) V := by
  obtain ⟨i, hi, hz, hsz, hby⟩ := infoU_parts
  have h1 : ((k : Nat) : Int) ≤ (c : Int) := by omega
  have h2 : (Addr.mk g o none).add 0 = ⟨g, o, none⟩ := by rw [add_plain, Nat.add_zero]
  simp [Instr.slice, Instr.sliceBounds, run_underlying Tryd.underlying58, run_sliceBound, sizeOf, typeInfo, hi, h1, h2]
theorem run_in_from (g o n c k : Nat) (hk : k ≤ n) (hn : n ≤ c) (V : World) : (Instr.slice 58 (.slice (some ⟨g, o, none⟩) n c) (some (.int .i64 (k : Int))) none none).run Tryd.prog V = .ok (.slice (some (if c = k then ⟨g, o, none⟩ else ⟨g, o + k, none⟩)) (n - k) (c - k)) V := by
  obtain ⟨i, hi, hz, hsz, hby⟩ := infoU_parts
  have h1 : ((k : Nat) : Int) ≤ (n : Int) := by omega
  have h2 : (Addr.mk g o none).add (k * i.size) = ⟨g, o + k, none⟩ := by rw [add_plain, hsz]; simp
  by_cases e : c = k
  · subst e
    obtain rfl : n = c := by omega
    simp [Instr.slice, Instr.sliceBounds, run_underlying Tryd.underlying58, run_sliceBound, sizeOf, typeInfo, hi]
  · have e2 : ¬ ((c : Int) = (k : Int)) := by omega
    rw [if_neg e]
    simp [Instr.slice, Instr.sliceBounds, run_underlying Tryd.underlying58, run_sliceBound, sizeOf, typeInfo, hi, h1, h2]
    omega
theorem Nu.take {W : World} {B g o k : Nat} {l : List Nat} (h : Nu W B (some ⟨g, o, none⟩) l) : Nu W B (some ⟨g, o, none⟩) (l.take k) := fun hne => by
  obtain ⟨g', o', e, hlt, r⟩ := h (fun e => hne (by rw [nus_take, e, List.take_nil]))
  cases e
  refine ⟨g, o, rfl, hlt, fun j u hu => r j u ?_⟩
  rw [nus_take, List.getElem?_take] at hu
  split at hu
  · exact hu
  · cases hu
theorem Nu.drop {W : World} {B g o k c : Nat} {l : List Nat} (h : Nu W B (some ⟨g, o, none⟩) l) (hc : l.length ≤ c) : Nu W B (some (if c = k then ⟨g, o, none⟩ else ⟨g, o + k, none⟩)) (l.drop k) := fun hne => by
  obtain ⟨g', o', e, hlt, r⟩ := h (fun e => hne (by rw [nus_drop, e, List.drop_nil]))
  cases e
  have hck : c ≠ k := by
    rintro rfl
    exact hne (by rw [List.drop_eq_nil_of_le hc]; rfl)
  rw [if_neg hck]
  refine ⟨g, o + k, rfl, hlt, fun j u hu => ?_⟩
  rw [nus_drop, List.getElem?_drop] at hu
  have := r (k + j) u hu
  rwa [← Nat.add_assoc] at this
section
variable (gf : Nat) (lb : Array Value) (J : List Evt → World → Prop) (E : List Evt)
/-- What is asked of whom a walk reports to. -/
def ReachC : Prop := ∀ (pre : List Evt) (e : Evt) (post : List Evt) (V : World), E = pre ++ e :: post → J pre V →
  Calls Tryd.prog gf (#[.int .i64 (e.1 : Int), .int .i64 (e.2.1 : Int), .int .u64 (e.2.2 : Int)] ++ lb) V fun r V' => r = .returned (.tuple #[]) ∧ J (pre ++ [e]) V'
/-- What a walk from a level does. -/
def WalkC (k : Nat) : Prop := ∀ (p : Nat) (l : List Nat) (A : Option Addr) (c : Nat) (pre post : List Evt) (W : World), l.Pairwise (· < ·) → l.length ≤ 1000000 → l.length ≤ c → (p + 1) * 2 ^ k ≤ 4294967296 →
  E = pre ++ (walkE k p l ++ post) → (∀ pre V, J pre V → Nu V V.heap.size A l) → J pre W →
  Calls Tryd.prog 70 #[.int .i64 (k : Int), .int .u64 (p : Int), .slice A l.length c, .func (.func gf) #[] lb] W fun r W' => r = .returned (.tuple #[]) ∧ J (pre ++ walkE k p l) W'
end
section
variable {gf : Nat} {lb : Array Value} {J : List Evt → World → Prop} {E : List Evt}
set_option maxRecDepth 100000 in
set_option maxHeartbeats 1000000 in
theorem walk_none (hcf : ∀ args V, (callFunc gf args).run Tryd.prog V = .ok (.enter gf args) V) (HE : ReachC gf lb J E) (k p : Nat) (A : Option Addr) (c : Nat) (pre post : List Evt) (W : World) (hE : E = pre ++ ((0, k, p) :: post)) (h0 : J pre W) :
    Calls Tryd.prog 70 #[.int .i64 (k : Int), .int .u64 (p : Int), .slice A 0 c, .func (.func gf) #[] lb] W fun r W' => r = .returned (.tuple #[]) ∧ J (pre ++ [(0, k, p)]) W' := by
  have HC := hid (show Calls Tryd.prog gf (#[.int .i64 0, .int .i64 (k : Int), .int .u64 (p : Int)] ++ lb) W (fun r V' => r = .returned (.tuple #[]) ∧ J (pre ++ [(0, k, p)]) V') from HE pre (0, k, p) post W hE h0)
  clear HE hE h0
  go_enter Tryd.func70, Tryd.ntmps70
  go_wp2
  refine HC.out.mono ?_
  rintro r1 w1 ⟨rfl, h1⟩
  have H1 := hid h1
  clear h1
  go_wp2
  refine bodyPost_end (results_none rfl _ _ _) rfl ?_
  exact ⟨rfl, H1.out⟩
set_option maxRecDepth 100000 in
set_option maxHeartbeats 1000000 in
theorem walk_leaf (hcf : ∀ args V, (callFunc gf args).run Tryd.prog V = .ok (.enter gf args) V) (HE : ReachC gf lb J E) (p n : Nat) (hn : n ≠ 0) (A : Option Addr) (c : Nat) (pre post : List Evt) (W : World) (hE : E = pre ++ ((1, 0, p) :: post)) (h0 : J pre W) :
    Calls Tryd.prog 70 #[.int .i64 0, .int .u64 (p : Int), .slice A n c, .func (.func gf) #[] lb] W fun r W' => r = .returned (.tuple #[]) ∧ J (pre ++ [(1, 0, p)]) W' := by
  have HC := hid (show Calls Tryd.prog gf (#[.int .i64 1, .int .i64 0, .int .u64 (p : Int)] ++ lb) W (fun r V' => r = .returned (.tuple #[]) ∧ J (pre ++ [(1, 0, p)]) V') from HE pre (1, 0, p) post W hE h0)
  have f0 : ((n : Int) == 0) = false := by simp; omega
  have f1 : decide ((n : Int) = 0) = false := by simp; omega
  have f2 : decide (n = 0) = false := by simpa using hn
  clear HE hE h0
  go_enter Tryd.func70, Tryd.ntmps70
  go_wp2
  refine HC.out.mono ?_
  rintro r1 w1 ⟨rfl, h1⟩
  have H1 := hid h1
  clear h1
  go_wp2
  refine bodyPost_end (results_none rfl _ _ _) rfl ?_
  exact ⟨rfl, H1.out⟩
set_option maxRecDepth 100000 in
set_option maxHeartbeats 2000000 in
theorem walk_step (hcf : ∀ args V, (callFunc gf args).run Tryd.prog V = .ok (.enter gf args) V) (HE : ReachC gf lb J E) (k : Nat) (hk : k < 32) (IH : WalkC gf lb J E k) (p : Nat) (l : List Nat) (hne : l ≠ []) (A : Option Addr) (c : Nat) (pre post : List Evt) (W : World) (hs : l.Pairwise (· < ·)) (hl : l.length ≤ 1000000) (hc : l.length ≤ c) (hp : (p + 1) * 2 ^ (k + 1) ≤ 4294967296)
    (hE : E = pre ++ (walkE (k + 1) p l ++ post)) (hN : ∀ pre V, J pre V → Nu V V.heap.size A l) (h0 : J pre W) :
    Calls Tryd.prog 70 #[.int .i64 ((k + 1 : Nat) : Int), .int .u64 (p : Int), .slice A l.length c, .func (.func gf) #[] lb] W fun r W' => r = .returned (.tuple #[]) ∧ J (pre ++ walkE (k + 1) p l) W' := by
  rw [walkE_step hne] at hE ⊢
  obtain ⟨g, o, rfl, -, -⟩ := (hN pre W h0).at (j := 0) (List.length_pos_iff.2 hne)
  obtain ⟨hr1, hr2, hr3⟩ := half_room hp
  obtain ⟨p2, hp2⟩ : ∃ q, q = 2 * p := ⟨_, rfl⟩
  obtain ⟨p3, hp3⟩ : ∃ q, q = p2 + 1 := ⟨_, rfl⟩
  have e1 : 2 * (p : Int) = (p2 : Int) := by omega
  have ew1 : IntKind.u64.wrap (p2 : Int) = (p2 : Int) := by rw [IntKind.wrap_u64]; omega
  have e2 : (p2 : Int) + 1 = (p3 : Int) := by omega
  have ew2 : IntKind.u64.wrap (p3 : Int) = (p3 : Int) := by rw [IntKind.wrap_u64]; omega
  obtain ⟨k1, hk1⟩ : ∃ q, q = k + 1 := ⟨_, rfl⟩
  have e3 : (k1 : Int) - 1 = (k : Int) := by omega
  have ew3 : IntKind.i64.wrap (k : Int) = (k : Int) := by rw [IntKind.wrap_i64] <;> omega
  obtain ⟨m, hm⟩ : ∃ q, q = p3 * 2 ^ k := ⟨_, rfl⟩
  rw [← hp2] at hr1 hr2 hr3 hE ⊢
  rw [← hp3] at hr1 hr2 hr3 hE ⊢
  rw [← hm] at hr1 hE ⊢
  have hsh : binOp .shl 23 (.int .u64 (p3 : Int)) (.int .i64 (k : Int)) = pure (.int .u64 (m : Int)) := by
    rw [hm]
    exact shl_u64 _ p3 k .i64 (by rw [← hm]; omega) (by omega)
  have f0 : ((l.length : Int) == 0) = false := by have := List.length_pos_iff.2 hne; simp; omega
  have hn0 : l.length ≠ 0 := by have := List.length_pos_iff.2 hne; omega
  have f1 : decide (l.length = 0) = false := by simpa using hn0
  have g0 : ((k1 : Int) == 0) = false := by simp; omega
  have g1 : decide (k1 = 0) = false := by simp; omega
  have HB := hid (pbsearch_any l hs m (some ⟨g, o, none⟩) c W (hN pre W h0) hl)
  rw [← hk1] at hE ⊢
  have HC := hid hc
  have HL := hid hl
  have HS := hid hs
  have HP := hid hr1
  have HP2 := hid hr2
  have HM := hid hm
  have HP3 := hid hp3
  have H0 := hid h0
  have HN := hid hN
  have HIH := hid IH
  have HEE := hid hE
  have HRE := hid HE
  obtain ⟨n, hn⟩ : ∃ n, n = l.length := ⟨_, rfl⟩
  have HNL := hid hn
  rw [← hn] at HB HC f0 f1 ⊢
  clear hs hl hc hp hE hN h0 HE IH hr1 hr2 hr3 hp2 hp3 hk1 hm hn0 hn hk
  go_enter Tryd.func70, Tryd.ntmps70
  go_wp2_with (first
    | (go_at_call 97; refine HB.out.mono ?_; rintro r1 w1 ⟨q, fb, rfl, hcut, hw⟩; rw [hw]; clear hw HB; have HCU := hid hcut; clear hcut; have hs1 := run_in_to g o n c q (by have := HCU.out.le; have := HNL.out; have := HC.out; omega); have hs2 := run_in_from g o n c q (by have := HCU.out.le; have := HNL.out; omega) HC.out; obtain ⟨A3, hA3⟩ : ∃ a : Addr, a = (if c = q then (⟨g, o, none⟩ : Addr) else ⟨g, o + q, none⟩) := ⟨_, rfl⟩; rw [← hA3] at hs2; have HA3 := hid hA3; clear hA3))
  have hqn : q ≤ l.length := HCU.out.le
  have hEE := HEE.out
  rw [← HCU.out.take, ← HCU.out.drop] at hEE
  have hlt : (l.take q).length = q := by rw [List.length_take]; omega
  have hld : (l.drop q).length = n - q := by rw [List.length_drop, HNL.out]
  have ML := HIH.out p2 (l.take q) (some ⟨g, o, none⟩) c pre (walkE k p3 (l.drop q) ++ ((2, k1, p) :: post)) W (HS.out.sublist (List.take_sublist _ _)) (by have := HL.out; omega) (by have := HNL.out; have := HC.out; omega) (by rw [← HP3.out, ← HM.out]; exact HP.out) (by rw [hEE]; simp) (fun pre V h => (HN.out pre V h).take) H0.out
  rw [hlt] at ML
  have MR := hid (fun (V : World) (hj : J (pre ++ walkE k p2 (l.take q)) V) => HIH.out p3 (l.drop q) (some (if c = q then ⟨g, o, none⟩ else ⟨g, o + q, none⟩)) (c - q) (pre ++ walkE k p2 (l.take q)) ((2, k1, p) :: post) V (HS.out.sublist (List.drop_sublist _ _)) (by have := HL.out; have := HNL.out; omega) (by have := HNL.out; have := HC.out; omega) HP2.out (by rw [hEE]; simp) (fun pre V h => (HN.out pre V h).drop (by rw [← HNL.out]; exact HC.out)) hj)
  rw [hld, ← HA3.out] at MR
  have MC := hid (fun (V : World) (hj : J (pre ++ walkE k p2 (l.take q) ++ walkE k p3 (l.drop q)) V) => show Calls Tryd.prog gf (#[.int .i64 2, .int .i64 (k1 : Int), .int .u64 (p : Int)] ++ lb) V (fun r V' => r = .returned (.tuple #[]) ∧ J (pre ++ walkE k p2 (l.take q) ++ walkE k p3 (l.drop q) ++ [(2, k1, p)]) V') from HRE.out (pre ++ walkE k p2 (l.take q) ++ walkE k p3 (l.drop q)) (2, k1, p) post V (by rw [hEE]; simp) hj)
  obtain ⟨EL, hEL⟩ : ∃ E, E = walkE k p2 (l.take q) := ⟨_, rfl⟩
  obtain ⟨ER, hER⟩ : ∃ E, E = walkE k p3 (l.drop q) := ⟨_, rfl⟩
  rw [← hEL] at ML MR MC
  rw [← hER] at MR MC
  have HEL := hid hEL
  have HER := hid hER
  clear hEE HEE HRE HIH HN H0 hlt hld hqn hEL hER
  refine ML.mono ?_
  rintro r2 w2 ⟨rfl, h2⟩
  have H2 := hid h2
  clear h2 ML
  go_wp2_with (first
    | (go_at_call 70; refine (MR.out w2 H2.out).mono ?_; rintro r3 w3 ⟨rfl, h3⟩; have H3 := hid h3; clear h3 MR))
  refine (MC.out w3 H3.out).mono ?_
  rintro r4 w4 ⟨rfl, h4⟩
  have H4 := hid h4
  clear h4 MC
  go_wp2
  refine bodyPost_end (results_none rfl _ _ _) rfl ?_
  have h5 := H4.out
  rw [HEL.out, HER.out, HCU.out.take, HCU.out.drop, List.append_assoc, List.append_assoc] at h5
  exact ⟨rfl, h5⟩
/-- A walk, from every level. -/
theorem walk_any (hcf : ∀ args V, (callFunc gf args).run Tryd.prog V = .ok (.enter gf args) V) (HE : ReachC gf lb J E) : ∀ k, k ≤ 32 → WalkC gf lb J E k := by
  intro k
  induction k with
  | zero =>
    intro _ p l A c pre post W hs hl hc hp hE hN h0
    by_cases h : l = []
    · subst h
      rw [walkE_nil] at hE ⊢
      exact walk_none hcf HE 0 p A c pre post W hE h0
    · rw [walkE_leaf h] at hE ⊢
      exact walk_leaf hcf HE p l.length (by have := List.length_pos_iff.2 h; omega) A c pre post W hE h0
  | succ k ih =>
    intro hk p l A c pre post W hs hl hc hp hE hN h0
    by_cases h : l = []
    · subst h
      rw [walkE_nil] at hE ⊢
      exact walk_none hcf HE (k + 1) p A c pre post W hE h0
    · exact walk_step hcf HE k (by omega) (ih (by omega)) p l h A c pre post W hs hl hc hp hE hN h0
end
end Go.Proofs.YtdegmcfcbndelaaDoor

namespace Go.Proofs.YtdegmcfcbndelaaDoor
open Go.RowKit

theorem riseB_all {l : List Nat} (h : ∀ i, i < l.length → i ≠ 0 → l.getD (i - 1) 0 < l.getD i 0) : riseB l = true := by
  unfold riseB
  rw [List.all_eq_true]
  intro i hi
  rw [List.mem_range] at hi
  by_cases e : i = 0
  · simp [e]
  · rw [decide_eq_true (h i hi e), Bool.or_true]
theorem riseB_no {l : List Nat} {i : Nat} (hi : i < l.length) (h0 : i ≠ 0) (h : ¬ l.getD (i - 1) 0 < l.getD i 0) : riseB l = false := by
  unfold riseB
  rw [List.all_eq_false]
  refine ⟨i, List.mem_range.2 hi, ?_⟩
  simp only [h0, decide_false, Bool.false_or, decide_eq_true_eq]
  exact h
theorem fitB_all {h : Nat} {l : List Nat} (hx : ∀ i, i < l.length → l.getD i 0 < 2 ^ h) : fitB h l = true := by
  unfold fitB
  rw [List.all_eq_true]
  intro x hxm
  obtain ⟨i, hi, rfl⟩ := List.getElem_of_mem hxm
  have := hx i hi
  rw [List.getD_eq_getElem?_getD, List.getElem?_eq_getElem hi] at this
  simpa using this
theorem fitB_no {h : Nat} {l : List Nat} {i : Nat} (hi : i < l.length) (hx : ¬ l.getD i 0 < 2 ^ h) : fitB h l = false := by
  unfold fitB
  rw [List.all_eq_false]
  rw [List.getD_eq_getElem?_getD, List.getElem?_eq_getElem hi] at hx
  exact ⟨l[i], List.getElem_mem hi, by simpa using hx⟩
end Go.Proofs.YtdegmcfcbndelaaDoor

namespace Go.Proofs.YtdegmcfcbndelaaDoor
open Go.RowKit

theorem rgtB_no {h : Int} {l : List Nat} (hb : h < 0 ∨ 32 < h ∨ l.length = 0 ∨ 256 < l.length) : rgtB h l = false := by
  unfold rgtB
  rcases hb with hb | hb | hb | hb
  · rw [decide_eq_false (show ¬ 0 ≤ h by omega)]
    simp
  · rw [decide_eq_false (show ¬ h ≤ 32 by omega)]
    simp
  · rw [List.eq_nil_of_length_eq_zero hb]
    simp
  · rw [decide_eq_false (show ¬ l.length ≤ 256 by omega)]
    simp
theorem rgtB_yes {h : Nat} {l : List Nat} (hh : h ≤ 32) (h0 : l.length ≠ 0) (hl : l.length ≤ 256) : rgtB (h : Int) l = (fitB h l && riseB l) := by
  unfold rgtB
  rw [decide_eq_true (show (0 : Int) ≤ h by omega), decide_eq_true (show (h : Int) ≤ 32 by omega), decide_eq_true hl, decide_eq_true (show l ≠ [] from fun e => h0 (by rw [e]; rfl)), Int.toNat_natCast]
  simp
set_option maxRecDepth 100000 in
set_option maxHeartbeats 400000 in
theorem rightR_no (h : Int) (n : Nat) (A : Option Addr) (c : Nat) (W : World) (hb : h < 0 ∨ 32 < h ∨ n = 0 ∨ 256 < n) :
    Calls Tryd.prog 31 #[.int .i64 h, .slice A n c] W fun r W' => r = .returned (.bool false) ∧ W' = W := by
  by_cases h1 : h < 0
  · have f1 : decide (h < 0) = true := by simpa using h1
    clear hb
    go_enter Tryd.func31, Tryd.ntmps31
    go_wp2
    go_ret
    exact ⟨rfl, rfl⟩
  · have f1 : decide (h < 0) = false := by simpa using h1
    by_cases h2 : 32 < h
    · have f2 : decide (32 < h) = true := by simpa using h2
      clear hb
      go_enter Tryd.func31, Tryd.ntmps31
      go_wp2
      go_ret
      exact ⟨rfl, rfl⟩
    · have f2 : decide (32 < h) = false := by simpa using h2
      by_cases h3 : n = 0
      · have f3 : decide ((n : Int) = 0) = true := by simp; omega
        have f3b : ((n : Int) == 0) = true := by simp; omega
        have f3n : decide (n = 0) = true := by simp; omega
        clear hb
        go_enter Tryd.func31, Tryd.ntmps31
        go_wp2
        go_ret
        exact ⟨rfl, rfl⟩
      · have f3 : decide ((n : Int) = 0) = false := by simp; omega
        have f3b : ((n : Int) == 0) = false := by simp; omega
        have f3n : decide (n = 0) = false := by simp; omega
        have h4 : 256 < n := by omega
        have f4 : decide (256 < (n : Int)) = true := by simp; omega
        have f4n : decide (256 < n) = true := by simp; omega
        clear hb
        go_enter Tryd.func31, Tryd.ntmps31
        go_wp2
        go_ret
        exact ⟨rfl, rfl⟩
set_option maxRecDepth 100000 in
set_option maxHeartbeats 1000000 in
theorem rightR_yes (h : Nat) (l : List Nat) (A : Option Addr) (c : Nat) (W : World) (hr : Nu W W.heap.size A l) (hh : h ≤ 32) (h0 : l.length ≠ 0) (hl : l.length ≤ 256) :
    Calls Tryd.prog 31 #[.int .i64 (h : Int), .slice A l.length c] W fun r W' => r = .returned (.bool (fitB h l && riseB l)) ∧ Below W.heap.size W W' := by
  obtain ⟨n, hn⟩ : ∃ n, n = l.length := ⟨_, rfl⟩
  have HR := hid (fun (W' : World) (b : Below W.heap.size W W') => (hr.new b : Nu W' W'.heap.size A l))
  have HN := hid hn
  have HL := hid (show n ≤ 256 by omega)
  have HH := hid hh
  rw [← hn] at h0 hl ⊢
  have f1 : decide ((h : Int) < 0) = false := by simp
  have f2 : decide (32 < (h : Int)) = false := by simp; omega
  have f2n : decide (32 < h) = false := by simp; omega
  have f3 : decide ((n : Int) = 0) = false := by simp; omega
  have f3b : ((n : Int) == 0) = false := by simp; omega
  have f3n : decide (n = 0) = false := by simp; omega
  have f4 : decide (256 < (n : Int)) = false := by simp; omega
  have f4n : decide (256 < n) = false := by simp; omega
  clear hr hh h0 hl hn
  go_enter Tryd.func31, Tryd.ntmps31
  go_wp2
  clear f1 f2 f2n f3 f3b f3n f4 f4n
  go_loopw [5, 6] (fun v5 v6 wr => ∃ i : Nat, i ≤ h ∧ v6 = .int .i64 (i : Int) ∧ v5 = .int .u64 ((2 ^ i : Nat) : Int) ∧ wr = W) (fun _ v6 _ => h - (intOf v6).toNat)
  case atStart => exact ⟨0, by omega, rfl, rfl, rfl⟩
  case round =>
    obtain ⟨i, hi, rfl, rfl, ew0⟩ := hrel
    obtain rfl := ew0.symm
    by_cases hlt : i < h
    · have d1 : decide ((i : Int) < (h : Int)) = true := by simp; omega
      have d1n : decide (i < h) = true := by simp; omega
      obtain ⟨i1, hi1⟩ : ∃ m, m = i + 1 := ⟨_, rfl⟩
      have e2 : (i : Int) + 1 = (i1 : Int) := by omega
      have ew : IntKind.i64.wrap (i1 : Int) = (i1 : Int) := by rw [IntKind.wrap_i64] <;> have := HH.out <;> omega
      have hb := Nat.pow_le_pow_right (n := 2) (by omega) (show i1 ≤ 32 by have := HH.out; omega)
      have hp : 2 ^ i1 = 2 ^ i * 2 := by rw [hi1, Nat.pow_succ]
      obtain ⟨q, hq⟩ : ∃ q, q = 2 ^ i := ⟨_, rfl⟩
      obtain ⟨q1, hq1⟩ : ∃ q, q = 2 ^ i1 := ⟨_, rfl⟩
      rw [← hq, ← hq1] at hp
      rw [← hq1] at hb
      rw [← hq]
      have em : (q : Int) * 2 = (q1 : Int) := by omega
      have ewm : IntKind.u64.wrap (q1 : Int) = (q1 : Int) := by simp [IntKind.wrap, IntKind.signed, IntKind.bits]; omega
      have HX := hid (show i1 ≤ h ∧ q1 = 2 ^ i1 ∧ h - i1 < h - i by omega)
      clear hb hp hq hq1 hlt hi hi1
      go_wp2
      exact ⟨⟨i1, HX.out.1, rfl, by rw [← HX.out.2.1], trivial⟩, by
        show h - ((i1 : Int)).toNat < h - ((i : Int)).toNat
        rw [Int.toNat_natCast, Int.toNat_natCast]
        exact HX.out.2.2⟩
    · obtain rfl : i = h := by omega
      have d1 : decide ((i : Int) < (i : Int)) = false := by simp
      obtain ⟨q, hq⟩ : ∃ q, q = 2 ^ i := ⟨_, rfl⟩
      rw [← hq]
      have HQ := hid hq
      clear hlt hi hq
      go_wp2
      clear d1
      go_loopw [7] (fun v7 w2 => ∃ j : Nat, j ≤ n ∧ v7 = .int .i64 (j : Int) ∧ Hid (∀ x, x < j → l.getD x 0 < 2 ^ i ∧ (x ≠ 0 → l.getD (x - 1) 0 < l.getD x 0)) ∧ Hid (Below W.heap.size W w2)) (fun v7 _ => n - (intOf v7).toNat)
      case atStart => exact ⟨0, by omega, rfl, hid (fun x hx => absurd hx (Nat.not_lt_zero x)), hid (Below.refl _ _)⟩
      case round =>
        obtain ⟨j, hj, rfl, hx, hb⟩ := hrel
        by_cases hlt : j < n
        · have d1 : decide ((j : Int) < (n : Int)) = true := by simp; omega
          have d1n : decide (j < n) = true := by simp; omega
          have ik : (j : Int) < (n : Int) := by omega
          have hjl : j < l.length := by rw [← HN.out]; exact hlt
          obtain ⟨g, o, rfl, -, c0⟩ := (HR.out wr hb.out).at hjl
          have hg : l.getD j 0 = l[j] := by rw [List.getD_eq_getElem?_getD, List.getElem?_eq_getElem hjl]; rfl
          rw [← hg] at c0
          obtain ⟨x, hxx⟩ : ∃ x, x = l.getD j 0 := ⟨_, rfl⟩
          rw [← hxx] at c0
          obtain ⟨p, hp⟩ : ∃ p, p = o + j := ⟨_, rfl⟩
          rw [← hp] at c0
          have eq := hp.symm
          have HXX := hid hxx
          by_cases hc : q ≤ x
          · have f0 : decide ((q : Int) ≤ (x : Int)) = true := by simp; omega
            have f0n : decide (q ≤ x) = true := by simpa using hc
            have HO := hid (fitB_no (h := i) (i := j) hjl (by rw [← hxx, ← HQ.out]; omega))
            clear hg hxx hp hc hlt hjl hj hx
            go_wp2
            go_quiet (fail)
            have HB := hid (below_drewN hb.out nq)
            clear c0 hb
            generalize wr.drewN nq = W1 at HB ⊢
            go_wp2
            go_ret
            exact ⟨by rw [HO.out, Bool.false_and]; rfl, HB.out⟩
          · have f0 : decide ((q : Int) ≤ (x : Int)) = false := by simp; omega
            have f0n : decide (q ≤ x) = false := by simp; omega
            obtain ⟨j1, hj1⟩ : ∃ m, m = j + 1 := ⟨_, rfl⟩
            have e2 : (j : Int) + 1 = (j1 : Int) := by omega
            have ew : IntKind.i64.wrap (j1 : Int) = (j1 : Int) := by rw [IntKind.wrap_i64] <;> have := HL.out <;> omega
            have HM := hid (show j1 ≤ n ∧ n - j1 < n - j by omega)
            have HFX := hid (show l.getD j 0 < 2 ^ i by rw [← hxx, ← HQ.out]; omega)
            have HJ1 := hid hj1
            by_cases hz : j = 0
            · have g0 : decide (0 < (j : Int)) = false := by simp; omega
              have g0n : decide (0 < j) = false := by simp; omega
              have HX := hid (show ∀ y, y < j1 → l.getD y 0 < 2 ^ i ∧ (y ≠ 0 → l.getD (y - 1) 0 < l.getD y 0) by
                intro y hy
                obtain rfl : y = j := by omega
                exact ⟨HFX.out, fun h => absurd hz h⟩)
              clear hg hxx hp hc hlt hjl hj hx hj1 hz
              go_wp2
              go_quiet (fail)
              have HB := hid (below_drewN hb.out nq)
              clear c0 hb
              generalize wr.drewN nq = W1 at HB ⊢
              go_wp2
              exact ⟨⟨j1, HM.out.1, rfl, HX.out, HB.out⟩, by
                show n - ((j1 : Int)).toNat < n - ((j : Int)).toNat
                rw [Int.toNat_natCast, Int.toNat_natCast]
                exact HM.out.2⟩
            · have g0 : decide (0 < (j : Int)) = true := by simp; omega
              have g0n : decide (0 < j) = true := by simp; omega
              obtain ⟨jm, hjm⟩ : ∃ m, m = j - 1 := ⟨_, rfl⟩
              have e3 : (j : Int) - 1 = (jm : Int) := by omega
              have e3w : IntKind.i64.wrap (jm : Int) = (jm : Int) := by rw [IntKind.wrap_i64] <;> have := HL.out <;> omega
              have hjml : jm < l.length := by omega
              have ikm : (jm : Int) < (n : Int) := by omega
              obtain ⟨g2, o2, ho, -, c1⟩ := (HR.out wr hb.out).at hjml
              obtain ⟨rfl, rfl⟩ : g2 = g ∧ o2 = o := by cases ho; exact ⟨rfl, rfl⟩
              have hg2 : l.getD jm 0 = l[jm] := by rw [List.getD_eq_getElem?_getD, List.getElem?_eq_getElem hjml]; rfl
              rw [← hg2] at c1
              obtain ⟨y, hyy⟩ : ∃ y, y = l.getD jm 0 := ⟨_, rfl⟩
              rw [← hyy] at c1
              obtain ⟨p2, hp2⟩ : ∃ p, p = o2 + jm := ⟨_, rfl⟩
              rw [← hp2] at c1
              have eq2 := hp2.symm
              by_cases hc2 : x ≤ y
              · have k0 : decide ((x : Int) ≤ (y : Int)) = true := by simp; omega
                have k0n : decide (x ≤ y) = true := by simpa using hc2
                have HO := hid (riseB_no (l := l) (i := j) hjl hz (by rw [← hxx, ← hjm, ← hyy]; omega))
                clear hg hxx hp hc hlt hjl hj hx hj1 hz hjm hjml hg2 hyy hp2 hc2 ho
                go_wp2
                go_quiet (fail)
                have HB := hid (below_drewN hb.out nq)
                clear c0 c1 hb
                generalize wr.drewN nq = W1 at HB ⊢
                go_wp2
                go_ret
                exact ⟨by rw [HO.out, Bool.and_false]; rfl, HB.out⟩
              · have k0 : decide ((x : Int) ≤ (y : Int)) = false := by simp; omega
                have k0n : decide (x ≤ y) = false := by simp; omega
                have HX := hid (show ∀ y, y < j1 → l.getD y 0 < 2 ^ i ∧ (y ≠ 0 → l.getD (y - 1) 0 < l.getD y 0) by
                  intro y' hy'
                  by_cases e : y' = j
                  · subst e
                    exact ⟨HFX.out, fun _ => by rw [← hjm, ← hyy, ← hxx]; omega⟩
                  · exact hx.out y' (by omega))
                clear hg hxx hp hc hlt hjl hj hx hj1 hz hjm hjml hg2 hyy hp2 hc2 ho
                go_wp2
                go_quiet (fail)
                have HB := hid (below_drewN hb.out nq)
                clear c0 c1 hb
                generalize wr.drewN nq = W1 at HB ⊢
                go_wp2
                exact ⟨⟨j1, HM.out.1, rfl, HX.out, HB.out⟩, by
                  show n - ((j1 : Int)).toNat < n - ((j : Int)).toNat
                  rw [Int.toNat_natCast, Int.toNat_natCast]
                  exact HM.out.2⟩
        · obtain rfl : j = n := by omega
          have d1 : decide ((j : Int) < (j : Int)) = false := by simp
          have HO := hid (fitB_all (h := i) (l := l) (fun x h => (hx.out x (by rw [HN.out]; exact h)).1))
          have HO2 := hid (riseB_all (l := l) (fun x h => (hx.out x (by rw [HN.out]; exact h)).2))
          clear hlt hj hx
          go_wp2
          go_ret
          exact ⟨by rw [HO.out, HO2.out]; rfl, hb.out⟩
/-- Right, whatever it is handed. -/
theorem right10R_any (h : Int) (l : List Nat) (A : Option Addr) (c : Nat) (W : World) (hr : Nu W W.heap.size A l) :
    Calls Tryd.prog 31 #[.int .i64 h, .slice A l.length c] W fun r W' => r = .returned (.bool (rgtB h l)) ∧ Below W.heap.size W W' := by
  by_cases hb : h < 0 ∨ 32 < h ∨ l.length = 0 ∨ 256 < l.length
  · refine (rightR_no h l.length A c W hb).mono ?_
    rintro r W' ⟨rfl, rfl⟩
    exact ⟨by rw [rgtB_no hb], Below.refl _ _⟩
  · obtain ⟨k, rfl⟩ : ∃ k : Nat, h = (k : Int) := ⟨h.toNat, by omega⟩
    rw [rgtB_yes (by omega) (by omega) (by omega)]
    exact rightR_yes k l A c W hr (by omega) (by omega) (by omega)
end Go.Proofs.YtdegmcfcbndelaaDoor

namespace Go.Proofs.YtdegmcfcbndelaaDoor
open Go.RowKit

theorem riseB_iff {l : List Nat} : riseB l = true ↔ l.Pairwise (· < ·) := by
  constructor
  · intro h
    have hn : ∀ i, i + 1 < l.length → l.getD i 0 < l.getD (i + 1) 0 := fun i hi => by
      unfold riseB at h
      rw [List.all_eq_true] at h
      have := h (i + 1) (List.mem_range.2 hi)
      simpa using this
    have hg : ∀ d i, i + d + 1 < l.length → l.getD i 0 < l.getD (i + d + 1) 0 := by
      intro d
      induction d with
      | zero => exact fun i hi => hn i hi
      | succ d ih => exact fun i hi => Nat.lt_trans (ih i (by omega)) (hn (i + d + 1) hi)
    refine List.pairwise_iff_getElem.2 fun i j hi hj hij => ?_
    have := hg (j - i - 1) i (by omega)
    rw [show i + (j - i - 1) + 1 = j by omega, List.getD_eq_getElem?_getD, List.getD_eq_getElem?_getD, List.getElem?_eq_getElem hi, List.getElem?_eq_getElem hj] at this
    exact this
  · exact fun h => riseB_all fun i hi h0 => getD_lt h (by omega) hi
/-- What the region of Right yields, where indices don't increase, and where they do. -/
def rtN (A : Option Addr) (n c : Nat) : Nat → Value
  | 0 => .slice A n c
  | 1 => .bool false
  | 2 => .bool false
  | 12 => .bool false
  | 13 => .bool false
  | _ => undef
def rtT (A : Option Addr) (n c m h p2 g q x : Nat) (fx : Bool) : Nat → Value
  | 0 => .slice A n c
  | 1 => .bool true
  | 2 => .bool true
  | 3 => .slice A n c
  | 4 => .slice A n c
  | 5 => .int .i64 (n : Int)
  | 6 => .int .i64 (m : Int)
  | 7 => .pointer (some ⟨g, q, none⟩)
  | 8 => .int .u64 (x : Int)
  | 9 => .int .i64 (h : Int)
  | 10 => .int .u64 (p2 : Int)
  | 11 => .bool fx
  | 12 => .bool fx
  | _ => .bool fx
/-- Of indices that increase the last one is the greatest. -/
theorem fitB_last {l : List Nat} (hs : l.Pairwise (· < ·)) (h0 : l ≠ []) (h : Nat) : fitB h l = decide (l.getD (l.length - 1) 0 < 2 ^ h) := by
  have hl : 0 < l.length := List.length_pos_iff.2 h0
  by_cases hc : l.getD (l.length - 1) 0 < 2 ^ h
  · rw [decide_eq_true hc]
    refine fitB_all fun i hi => ?_
    by_cases e : i = l.length - 1
    · rw [e]; exact hc
    · have := getD_lt hs (show i < l.length - 1 by omega) (by omega)
      omega
  · rw [decide_eq_false hc]
    exact fitB_no (i := l.length - 1) (by omega) hc
set_option maxRecDepth 100000 in
set_option maxHeartbeats 1000000 in
theorem pincr_any (l : List Nat) (A : Option Addr) (c : Nat) (W : World) (hr : Nu W W.heap.size A l) (hl : l.length ≤ 1000000) :
    Calls Tryd.prog 73 #[.slice A l.length c] W fun r W' => r = .returned (.bool (riseB l)) ∧ Below W.heap.size W W' := by
  obtain ⟨n, hn⟩ : ∃ n, n = l.length := ⟨_, rfl⟩
  have HR := hid (fun (W' : World) (b : Below W.heap.size W W') => (hr.new b : Nu W' W'.heap.size A l))
  have HN := hid hn
  have HL := hid (show n ≤ 1000000 by omega)
  rw [← hn]
  clear hr hl hn
  go_enter Tryd.func73, Tryd.ntmps73
  go_wp2
  go_loopw [3] (fun v wr => ∃ j : Nat, 1 ≤ j ∧ v = .int .i64 (j : Int) ∧ Hid (∀ x, x < j → x < n → x ≠ 0 → l.getD (x - 1) 0 < l.getD x 0) ∧ Hid (Below W.heap.size W wr)) (fun v _ => n - (intOf v).toNat)
  case atStart => exact ⟨1, by omega, rfl, hid (fun x hx _ h0 => by omega), hid (Below.refl _ _)⟩
  case round =>
    obtain ⟨j, hj, rfl, hx, hb⟩ := hrel
    by_cases hlt : j < n
    · have d1 : decide ((j : Int) < (n : Int)) = true := by simp; omega
      have d1n : decide (j < n) = true := by simp; omega
      have ik : (j : Int) < (n : Int) := by omega
      obtain ⟨jm, hjm⟩ : ∃ m, m = j - 1 := ⟨_, rfl⟩
      have e3 : (j : Int) - 1 = (jm : Int) := by omega
      have ew3 : IntKind.i64.wrap (jm : Int) = (jm : Int) := by rw [IntKind.wrap_i64] <;> have := HL.out <;> omega
      have ikm : (jm : Int) < (n : Int) := by omega
      have hjl : j < l.length := by rw [← HN.out]; exact hlt
      have hjml : jm < l.length := by omega
      obtain ⟨g, o, eA, -, c0⟩ := (HR.out wr hb.out).at hjl
      obtain ⟨g2, o2, eA2, -, c1⟩ := (HR.out wr hb.out).at hjml
      obtain ⟨rfl, rfl⟩ : g2 = g ∧ o2 = o := by rw [eA] at eA2; cases eA2; exact ⟨rfl, rfl⟩
      subst eA
      obtain ⟨x, hxx⟩ : ∃ x, x = l[j] := ⟨_, rfl⟩
      obtain ⟨y, hyy⟩ : ∃ y, y = l[jm] := ⟨_, rfl⟩
      have hg : l.getD j 0 = x := by rw [hxx, List.getD_eq_getElem?_getD, List.getElem?_eq_getElem hjl]; rfl
      have hg2 : l.getD (j - 1) 0 = y := by rw [← hjm, hyy, List.getD_eq_getElem?_getD, List.getElem?_eq_getElem hjml]; rfl
      rw [← hxx] at c0
      rw [← hyy] at c1
      obtain ⟨p1, hp1⟩ : ∃ q, q = o2 + j := ⟨_, rfl⟩
      obtain ⟨p2, hp2⟩ : ∃ q, q = o2 + jm := ⟨_, rfl⟩
      rw [← hp1] at c0
      rw [← hp2] at c1
      have ep1 := hp1.symm
      have ep2 := hp2.symm
      by_cases hc : x ≤ y
      · have f0 : decide ((x : Int) ≤ (y : Int)) = true := by simp; omega
        have f0n : decide (x ≤ y) = true := by simpa using hc
        have HO := hid (riseB_no (l := l) (i := j) hjl (by omega) (by rw [hg, hg2]; omega))
        clear hjm hjl hjml eA2 hxx hyy hg hg2 hp1 hp2 hc hlt hj hx
        go_wp2
        go_quiet (fail)
        have HB := hid (below_drewN hb.out nq)
        clear c0 c1 hb
        generalize wr.drewN nq = W1 at HB ⊢
        go_wp2
        go_ret
        exact ⟨by rw [HO.out]; rfl, HB.out⟩
      · have f0 : decide ((x : Int) ≤ (y : Int)) = false := by simp; omega
        have f0n : decide (x ≤ y) = false := by simpa using hc
        obtain ⟨j1, hj1⟩ : ∃ m, m = j + 1 := ⟨_, rfl⟩
        have e2 : (j : Int) + 1 = (j1 : Int) := by omega
        have ew : IntKind.i64.wrap (j1 : Int) = (j1 : Int) := by rw [IntKind.wrap_i64] <;> have := HL.out <;> omega
        have HM := hid (show 1 ≤ j1 ∧ n - j1 < n - j by omega)
        have HX := hid (show ∀ z, z < j1 → z < n → z ≠ 0 → l.getD (z - 1) 0 < l.getD z 0 from fun z hz hzn h0 => by
          by_cases e : z = j
          · rw [e, hg, hg2]; omega
          · exact hx.out z (by omega) hzn h0)
        clear hjm hjl hjml eA2 hxx hyy hg hg2 hp1 hp2 hc hlt hj hx hj1
        go_wp2
        go_quiet (fail)
        have HB := hid (below_drewN hb.out nq)
        clear c0 c1 hb
        generalize wr.drewN nq = W1 at HB ⊢
        go_wp2
        exact ⟨⟨j1, HM.out.1, rfl, HX.out, HB.out⟩, by
          show n - ((j1 : Int)).toNat < n - ((j : Int)).toNat
          rw [Int.toNat_natCast, Int.toNat_natCast]
          exact HM.out.2⟩
    · have d1 : decide ((j : Int) < (n : Int)) = false := by simp; omega
      have d1n : decide (j < n) = false := by simp; omega
      have HO := hid (show riseB l = true from riseB_all fun i hi h0 => hx.out i (by have := HN.out; omega) (by have := HN.out; omega) h0)
      have HB := hid hb.out
      clear hlt hj hx hb
      go_wp2
      go_ret
      exact ⟨by rw [HO.out]; rfl, HB.out⟩
set_option maxRecDepth 100000 in
set_option maxHeartbeats 400000 in
theorem pright10_no (h : Int) (n : Nat) (A : Option Addr) (c : Nat) (W : World) (hb : h < 0 ∨ 32 < h ∨ n = 0 ∨ 256 < n) :
    Calls Tryd.prog 32 #[.int .i64 h, .slice A n c] W fun r W' => r = .returned (.bool false) ∧ W' = W := by
  by_cases h1 : h < 0
  · have f1 : decide (h < 0) = true := by simpa using h1
    clear hb
    go_enter Tryd.func32, Tryd.ntmps32
    go_wp2
    go_ret
    exact ⟨rfl, rfl⟩
  · have f1 : decide (h < 0) = false := by simpa using h1
    by_cases h2 : 32 < h
    · have f2 : decide (32 < h) = true := by simpa using h2
      clear hb
      go_enter Tryd.func32, Tryd.ntmps32
      go_wp2
      go_ret
      exact ⟨rfl, rfl⟩
    · have f2 : decide (32 < h) = false := by simpa using h2
      by_cases h3 : n = 0
      · have f3 : decide ((n : Int) < 1) = true := by simp; omega
        have f3n : decide (n < 1) = true := by simp; omega
        have f3m : decide (n = 0) = true := by simpa using h3
        clear hb
        go_enter Tryd.func32, Tryd.ntmps32
        go_wp2
        go_ret
        exact ⟨rfl, rfl⟩
      · have f3 : decide ((n : Int) < 1) = false := by simp; omega
        have f3n : decide (n < 1) = false := by simp; omega
        have f3m : decide (n = 0) = false := by simpa using h3
        have f4 : decide (256 < (n : Int)) = true := by simp; omega
        have f4n : decide (256 < n) = true := by simp; omega
        clear hb
        go_enter Tryd.func32, Tryd.ntmps32
        go_wp2
        go_ret
        exact ⟨rfl, rfl⟩
set_option maxRecDepth 100000 in
set_option maxHeartbeats 1000000 in
theorem pright10_yes (h : Nat) (l : List Nat) (A : Option Addr) (c : Nat) (W : World) (hr : Nu W W.heap.size A l) (hh : h ≤ 32) (h0 : l.length ≠ 0) (hl : l.length ≤ 256) :
    Calls Tryd.prog 32 #[.int .i64 (h : Int), .slice A l.length c] W fun r W' => r = .returned (.bool (fitB h l && riseB l)) ∧ Below W.heap.size W W' := by
  obtain ⟨n, hn⟩ : ∃ n, n = l.length := ⟨_, rfl⟩
  have HR := hid (fun (W' : World) (b : Below W.heap.size W W') => (hr.new b : Nu W' W'.heap.size A l))
  have HI := hid (fun (V : World) (b : Below W.heap.size W V) => show Calls Tryd.prog 73 #[.slice A n c] V (fun r W' => r = .returned (.bool (riseB l)) ∧ Below V.heap.size V W') by rw [hn]; exact pincr_any l A c V (hr.new b) (by omega))
  have hll : n - 1 < l.length := by omega
  obtain ⟨m, hm⟩ : ∃ m, m = n - 1 := ⟨_, rfl⟩
  rw [← hm] at hll
  obtain ⟨x, hx⟩ : ∃ x, x = l[m] := ⟨_, rfl⟩
  have HX := hid hx
  have hgd : l.getD (l.length - 1) 0 = x := by rw [← hn, ← hm, hx, List.getD_eq_getElem?_getD, List.getElem?_eq_getElem hll]; rfl
  have HLX := hid (fun (V : World) (b : Below W.heap.size W V) => show ∃ g o, A = some ⟨g, o, none⟩ ∧ V.cell? ⟨g, o + m, none⟩ = some (.int .u64 (x : Int)) by
    obtain ⟨g, o, e, -, c0⟩ := (hr.new b : Nu V V.heap.size A l).at hll
    exact ⟨g, o, e, by rw [hx]; exact c0⟩)
  have f1 : decide ((h : Int) < 0) = false := by simp
  have f2 : decide (32 < (h : Int)) = false := by simp; omega
  have f2n : decide (32 < h) = false := by simp; omega
  have f3 : decide ((n : Int) < 1) = false := by simp; omega
  have f3n : decide (n < 1) = false := by simp; omega
  have f3m : decide (n = 0) = false := by simp; omega
  have f4 : decide (256 < (n : Int)) = false := by simp; omega
  have f4n : decide (256 < n) = false := by simp; omega
  have e1 : (n : Int) - 1 = (m : Int) := by omega
  have ew1 : IntKind.i64.wrap (m : Int) = (m : Int) := by rw [IntKind.wrap_i64] <;> omega
  have ikm : (m : Int) < (n : Int) := by omega
  have hpw : (2 : Nat) ^ h ≤ 4294967296 := pow_le32 hh
  obtain ⟨p2, hp2⟩ : ∃ p, p = 2 ^ h := ⟨_, rfl⟩
  have sh : binOp .shl 23 (.int .u64 1) (.int .i64 (h : Int)) = pure (.int .u64 (p2 : Int)) := by
    have := shl_u64 23 1 h .i64 (by omega) (by omega)
    rw [Nat.one_mul, ← hp2] at this
    exact this
  have d0 : decide ((x : Int) < (p2 : Int)) = decide (x < p2) := by simp
  obtain ⟨fx, hfx⟩ : ∃ b, b = decide (x < p2) := ⟨_, rfl⟩
  rw [← hfx] at d0
  have HF := hid (show riseB l = true → fitB h l = fx from fun e => by rw [fitB_last (riseB_iff.1 e) (fun e => h0 (by rw [e]; rfl)) h, hgd, hfx, hp2])
  have hfx' := hfx.symm
  rw [← hn]
  clear hr hh h0 hl hn hm hx hgd hpw hp2 hfx
  cases hri : riseB l with
  | false =>
    rw [hri] at HI
    rw [Bool.and_false]
    clear hri HF
    go_enter Tryd.func32, Tryd.ntmps32
    go_wp2
    try simp only [Act.put, List.setIfInBounds_toArray, List.set_cons_succ, List.set_cons_zero]
    refine wp_region_facts 14 14 [21, 22, 23, 24, 25, 26, 27, 28, 29, 30, 31, 32, 33, 4] (fun k v _ => v = rtN A n c k) (Below W.heap.size W) (by kernel_rfl) (by kernel_rfl)
      (fun W W' h hb => h.trans (hb.mono h.size)) (fun _ _ _ _ h _ => h) ((Below.refl _ _).drew) ?_ ?_
    · intro i hi vals W K hB hn hK
      simp only [frm_cons, frm_nil, List.set_cons_succ, List.set_cons_zero, Nat.reduceAdd] at hK ⊢
      rcases (by omega : i = 0 ∨ i = 1 ∨ i = 2 ∨ i = 3 ∨ i = 4 ∨ i = 5 ∨ i = 6 ∨ i = 7 ∨ i = 8 ∨ i = 9 ∨ i = 10 ∨ i = 11 ∨ i = 12 ∨ i = 13) with rfl | rfl | rfl | rfl | rfl | rfl | rfl | rfl | rfl | rfl | rfl | rfl | rfl | rfl
      · refine wpOp_plain rfl rfl (wp_val (w' := W) (v := .slice A n c) (by go_simp) ?_)
        exact hK _ _ rfl (Below.refl _ _)
      · have h0 := hn 0 (by decide +kernel)
        simp only [rtN] at h0
        simp only [h0] at hK ⊢
        refine wpOp_plain rfl rfl ?_
        go_simp
        go_at_call 73
        refine (HI.out W hB).mono ?_
        rintro e W' ⟨rfl, hb⟩
        exact hK _ _ rfl hb
      · have h1 := hn 1 (by decide +kernel)
        simp only [rtN] at h1
        simp only [h1] at hK ⊢
        refine wpOp_plain rfl rfl (wp_val (w' := W) (v := .bool false) (by go_simp) ?_)
        exact hK _ _ rfl (Below.refl _ _)
      · have h2 := hn 2 (by decide +kernel)
        simp only [rtN] at h2
        simp only [h2] at hK ⊢
        refine wpOp_off rfl (by rfl) ?_
        exact hK _ _ rfl (Below.refl _ _)
      · have h2 := hn 2 (by decide +kernel)
        simp only [rtN] at h2
        simp only [h2] at hK ⊢
        refine wpOp_off rfl (by rfl) ?_
        exact hK _ _ rfl (Below.refl _ _)
      · have h2 := hn 2 (by decide +kernel)
        simp only [rtN] at h2
        simp only [h2] at hK ⊢
        refine wpOp_off rfl (by rfl) ?_
        exact hK _ _ rfl (Below.refl _ _)
      · have h2 := hn 2 (by decide +kernel)
        simp only [rtN] at h2
        simp only [h2] at hK ⊢
        refine wpOp_off rfl (by rfl) ?_
        exact hK _ _ rfl (Below.refl _ _)
      · have h2 := hn 2 (by decide +kernel)
        simp only [rtN] at h2
        simp only [h2] at hK ⊢
        refine wpOp_off rfl (by rfl) ?_
        exact hK _ _ rfl (Below.refl _ _)
      · have h2 := hn 2 (by decide +kernel)
        simp only [rtN] at h2
        simp only [h2] at hK ⊢
        refine wpOp_off rfl (by rfl) ?_
        exact hK _ _ rfl (Below.refl _ _)
      · have h2 := hn 2 (by decide +kernel)
        simp only [rtN] at h2
        simp only [h2] at hK ⊢
        refine wpOp_off rfl (by rfl) ?_
        exact hK _ _ rfl (Below.refl _ _)
      · have h2 := hn 2 (by decide +kernel)
        simp only [rtN] at h2
        simp only [h2] at hK ⊢
        refine wpOp_off rfl (by rfl) ?_
        exact hK _ _ rfl (Below.refl _ _)
      · have h2 := hn 2 (by decide +kernel)
        simp only [rtN] at h2
        simp only [h2] at hK ⊢
        refine wpOp_off rfl (by rfl) ?_
        exact hK _ _ rfl (Below.refl _ _)
      · have h2 := hn 2 (by decide +kernel)
        simp only [rtN] at h2
        simp only [h2] at hK ⊢
        refine wpOp_plain rfl rfl (wp_val (w' := W) (v := .bool false) (by go_simp) ?_)
        exact hK _ _ rfl (Below.refl _ _)
      · have h12 := hn 12 (by decide +kernel)
        simp only [rtN] at h12
        simp only [h12] at hK ⊢
        refine wpOp_plain rfl rfl (wp_val (w' := W) (v := .bool false) (by go_simp) ?_)
        exact hK _ _ rfl (Below.refl _ _)
    · intro vals W hB hF
      have h13 := hF 13 (by omega)
      simp only [rtN] at h13
      simp only [frm_cons, frm_nil, List.set_cons_succ, List.set_cons_zero, Nat.reduceAdd, h13]
      refine wpUpto_done (by decide +kernel) ?_ _
      have HB := hid hB
      clear hB hF h13
      go_simp
      go_wp2
      go_ret
      exact ⟨rfl, HB.out⟩
  | true =>
    rw [hri] at HI
    rw [Bool.and_true, HF.out hri]
    clear hri HF
    go_enter Tryd.func32, Tryd.ntmps32
    obtain ⟨g, o, rfl, -⟩ := HLX.out W (Below.refl _ _)
    have HC := hid (fun (V : World) (b : Below W.heap.size W V) => show V.cell? ⟨g, o + m, none⟩ = some (.int .u64 (x : Int)) by
      obtain ⟨g', o', e, c0⟩ := HLX.out V b
      cases e
      exact c0)
    obtain ⟨q, hq⟩ : ∃ q, q = o + m := ⟨_, rfl⟩
    have eq := hq.symm
    rw [← hq] at HC
    clear hq HLX
    go_wp2
    try simp only [Act.put, List.setIfInBounds_toArray, List.set_cons_succ, List.set_cons_zero]
    refine wp_region_facts 14 14 [21, 22, 23, 24, 25, 26, 27, 28, 29, 30, 31, 32, 33, 4] (fun k v _ => v = rtT (some ⟨g, o, none⟩) n c m h p2 g q x fx k) (Below W.heap.size W) (by kernel_rfl) (by kernel_rfl)
      (fun W W' h hb => h.trans (hb.mono h.size)) (fun _ _ _ _ h _ => h) ((Below.refl _ _).drew) ?_ ?_
    · intro i hi vals W K hB hn hK
      simp only [frm_cons, frm_nil, List.set_cons_succ, List.set_cons_zero, Nat.reduceAdd] at hK ⊢
      rcases (by omega : i = 0 ∨ i = 1 ∨ i = 2 ∨ i = 3 ∨ i = 4 ∨ i = 5 ∨ i = 6 ∨ i = 7 ∨ i = 8 ∨ i = 9 ∨ i = 10 ∨ i = 11 ∨ i = 12 ∨ i = 13) with rfl | rfl | rfl | rfl | rfl | rfl | rfl | rfl | rfl | rfl | rfl | rfl | rfl | rfl
      · refine wpOp_plain rfl rfl (wp_val (w' := W) (v := .slice (some ⟨g, o, none⟩) n c) (by go_simp) ?_)
        exact hK _ _ rfl (Below.refl _ _)
      · have h0 := hn 0 (by decide +kernel)
        simp only [rtT] at h0
        simp only [h0] at hK ⊢
        refine wpOp_plain rfl rfl ?_
        go_simp
        go_at_call 73
        refine (HI.out W hB).mono ?_
        rintro e W' ⟨rfl, hb⟩
        exact hK _ _ rfl hb
      · have h1 := hn 1 (by decide +kernel)
        simp only [rtT] at h1
        simp only [h1] at hK ⊢
        refine wpOp_plain rfl rfl (wp_val (w' := W) (v := .bool true) (by go_simp) ?_)
        exact hK _ _ rfl (Below.refl _ _)
      · have h2 := hn 2 (by decide +kernel)
        simp only [rtT] at h2
        simp only [h2] at hK ⊢
        refine wpOp_on rfl (by rfl) (wp_val (w' := W) (v := .slice (some ⟨g, o, none⟩) n c) (by go_simp) ?_)
        exact hK _ _ rfl (Below.refl _ _)
      · have h2 := hn 2 (by decide +kernel)
        simp only [rtT] at h2
        simp only [h2] at hK ⊢
        refine wpOp_on rfl (by rfl) (wp_val (w' := W) (v := .slice (some ⟨g, o, none⟩) n c) (by go_simp) ?_)
        exact hK _ _ rfl (Below.refl _ _)
      · have h2 := hn 2 (by decide +kernel)
        have h4 := hn 4 (by decide +kernel)
        simp only [rtT] at h2 h4
        simp only [h2, h4] at hK ⊢
        refine wpOp_on rfl (by rfl) (wp_val (w' := W) (v := .int .i64 (n : Int)) (by go_simp) ?_)
        exact hK _ _ rfl (Below.refl _ _)
      · have h2 := hn 2 (by decide +kernel)
        have h5 := hn 5 (by decide +kernel)
        simp only [rtT] at h2 h5
        simp only [h2, h5] at hK ⊢
        refine wpOp_on rfl (by rfl) (wp_val (w' := W) (v := .int .i64 (m : Int)) (by go_simp) ?_)
        exact hK _ _ rfl (Below.refl _ _)
      · have h2 := hn 2 (by decide +kernel)
        have h3 := hn 3 (by decide +kernel)
        have h6 := hn 6 (by decide +kernel)
        simp only [rtT] at h2 h3 h6
        simp only [h2, h3, h6] at hK ⊢
        refine wpOp_on rfl (by rfl) (wp_val (w' := W) (v := .pointer (some ⟨g, q, none⟩)) (by go_simp) ?_)
        exact hK _ _ rfl (Below.refl _ _)
      · have h2 := hn 2 (by decide +kernel)
        have h7 := hn 7 (by decide +kernel)
        simp only [rtT] at h2 h7
        simp only [h2, h7] at hK ⊢
        have q0 := HC.out W hB
        refine wpOp_on rfl (by rfl) (wp_val (w' := W) (v := .int .u64 (x : Int)) (by go_simp) ?_)
        exact hK _ _ rfl (Below.refl _ _)
      · have h2 := hn 2 (by decide +kernel)
        simp only [rtT] at h2
        simp only [h2] at hK ⊢
        refine wpOp_on rfl (by rfl) (wp_val (w' := W) (v := .int .i64 (h : Int)) (by go_simp) ?_)
        exact hK _ _ rfl (Below.refl _ _)
      · have h2 := hn 2 (by decide +kernel)
        have h9 := hn 9 (by decide +kernel)
        simp only [rtT] at h2 h9
        simp only [h2, h9] at hK ⊢
        refine wpOp_on rfl (by rfl) (wp_val (w' := W) (v := .int .u64 (p2 : Int)) (by go_simp) ?_)
        exact hK _ _ rfl (Below.refl _ _)
      · have h2 := hn 2 (by decide +kernel)
        have h8 := hn 8 (by decide +kernel)
        have h10 := hn 10 (by decide +kernel)
        simp only [rtT] at h2 h8 h10
        simp only [h2, h8, h10] at hK ⊢
        refine wpOp_on rfl (by rfl) (wp_val (w' := W) (v := .bool fx) (by go_simp) ?_)
        exact hK _ _ rfl (Below.refl _ _)
      · have h2 := hn 2 (by decide +kernel)
        have h11 := hn 11 (by decide +kernel)
        simp only [rtT] at h2 h11
        simp only [h2, h11] at hK ⊢
        refine wpOp_plain rfl rfl (wp_val (w' := W) (v := .bool fx) (by go_simp) ?_)
        exact hK _ _ rfl (Below.refl _ _)
      · have h12 := hn 12 (by decide +kernel)
        simp only [rtT] at h12
        simp only [h12] at hK ⊢
        refine wpOp_plain rfl rfl (wp_val (w' := W) (v := .bool fx) (by go_simp) ?_)
        exact hK _ _ rfl (Below.refl _ _)
    · intro vals W hB hF
      have h13 := hF 13 (by omega)
      simp only [rtT] at h13
      simp only [frm_cons, frm_nil, List.set_cons_succ, List.set_cons_zero, Nat.reduceAdd, h13]
      refine wpUpto_done (by decide +kernel) ?_ _
      have HB := hid hB
      clear hB hF h13
      go_simp
      go_wp2
      go_ret
      exact ⟨rfl, HB.out⟩
/-- Right of the program, for all arguments. -/
theorem pright10_any (h : Int) (l : List Nat) (A : Option Addr) (c : Nat) (W : World) (hr : Nu W W.heap.size A l) :
    Calls Tryd.prog 32 #[.int .i64 h, .slice A l.length c] W fun r W' => r = .returned (.bool (rgtB h l)) ∧ Below W.heap.size W W' := by
  by_cases hb : h < 0 ∨ 32 < h ∨ l.length = 0 ∨ 256 < l.length
  · refine (pright10_no h l.length A c W hb).mono ?_
    rintro r W' ⟨rfl, rfl⟩
    exact ⟨by rw [rgtB_no hb], Below.refl _ _⟩
  · obtain ⟨k, rfl⟩ : ∃ k : Nat, h = (k : Int) := ⟨h.toNat, by omega⟩
    rw [rgtB_yes (by omega) (by omega) (by omega)]
    exact pright10_yes k l A c W hr (by omega) (by omega) (by omega)
end Go.Proofs.YtdegmcfcbndelaaDoor

namespace Go.Proofs.YtdegmcfcbndelaaDoor
open Go.RowKit

theorem spots_le (l : List Nat) {h : Nat} (hh : h ≤ 32) : (spotsS l h 0).length ≤ 4294967296 := by
  have h1 := spotsS_length l h 0
  have h2 : (2 : Nat) ^ h ≤ 2 ^ 32 := Nat.pow_le_pow_right (by omega) hh
  omega
theorem asides_snoc (pre : List Evt) (e : Evt) : (asides (pre ++ [e])).length = (asides pre).length + if e.1 = 0 then 1 else 0 := by
  rw [asides_append, List.length_append]
  congr 1
  unfold asides
  by_cases h : e.1 = 0
  · simp [h]
  · have : (e.1 == 0) = false := by simpa using h
    simp [h]
theorem whole_asides {l : List Nat} {h : Nat} (hh : h ≤ 32) (hl : ∀ x ∈ l, x < 2 ^ h) : asides (walkE h 0 l) = spotsS l h 0 := by
  have h2 : (2 : Nat) ^ h ≤ 2 ^ 32 := Nat.pow_le_pow_right (by omega) hh
  have := walk_asides l h 0 (by omega)
  rwa [subI_all hl] at this
theorem rgtB_parts {h : Nat} {l : List Nat} (hr : rgtB (h : Int) l = true) : h ≤ 32 ∧ l ≠ [] ∧ l.length ≤ 256 ∧ l.Pairwise (· < ·) ∧ ∀ x ∈ l, x < 2 ^ h := by
  unfold rgtB at hr
  simp only [Bool.and_eq_true, decide_eq_true_eq, Int.toNat_natCast] at hr
  obtain ⟨⟨⟨⟨⟨h1, h2⟩, h3⟩, h4⟩, h5⟩, h6⟩ := hr
  refine ⟨by omega, h3, h4, riseB_iff.1 h6, fun x hx => ?_⟩
  unfold fitB at h5
  simpa using List.all_eq_true.1 h5 x hx
theorem part_le {E pre post : List Evt} (h : E = pre ++ post) : (asides pre).length ≤ (asides E).length ∧ (leafs pre).length ≤ (leafs E).length := by
  rw [h, asides_append, leafs_append, List.length_append, List.length_append]
  omega
theorem Nu.later {w V : World} {A : Option Addr} {l : List Nat} (hr : Nu w w.heap.size A l) (hb : Below w.heap.size w V) : Nu V V.heap.size A l := (hr.below hb).mono hb.size
end Go.Proofs.YtdegmcfcbndelaaDoor
