/-
  Layer 10, the document's side: slices of indices of the call's own: appended to, cut.
  A number shifted to the left. Nothing here speaks of the program.
  Layer 10, the program's side: the walk down to some indices, whatever it reports to.
-/
import Derived.Test.YtlmecjnlinalkaaDoorK1
import Derived.Maps.AppendAt
import Derived.Laws.OwnMore
import Derived.Deep.Upon
import Derived.Deep.AppendLies
import Derived.Great.BuildSlice
import Derived.Test.YtlmecjnlinalkaaDoorY1
import Derived.Test.YtlmecjnlinalkaaDoorK5
namespace Go.Proofs.YtlmecjnlinalkaaDoor
open Go.RowKit

theorem infoU : (Tryd.prog.info? 23).map (fun i => (i.zero, i.size, i.bytes)) = some (some (.int .u64 0), 1, 8) := by kernel_rfl
theorem infoU_parts : ∃ i, Tryd.prog.info? 23 = some i ∧ i.zero = some (.int .u64 0) ∧ i.size = 1 ∧ i.bytes = 8 := by
  have := infoU
  cases h : Tryd.prog.info? 23 with
  | none => rw [h] at this; cases this
  | some ie =>
    rw [h] at this
    simp only [Option.map_some, Option.some.injEq, Prod.mk.injEq] at this
    exact ⟨ie, rfl, this.1, this.2.1, this.2.2⟩
theorem nus_take (L : List Nat) (k : Nat) : nus (L.take k) = (nus L).take k := by simp [nus, List.map_take]
theorem nus_drop (L : List Nat) (k : Nat) : nus (L.drop k) = (nus L).drop k := by simp [nus, List.map_drop]
/-- A slice of indices of the call's own. -/
def Aun (W : World) (base : Nat) (v : Value) (L : List Nat) : Prop := W.ownsRow base 23 1 v L.length (nus L)
section
variable {W W' : World} {base : Nat} {v : Value} {L : List Nat}
theorem Aun.nil (W : World) (base : Nat) : Aun W base (.slice none 0 0) [] := World.ownsRow_nil _ _ _ _
theorem Aun.form (h : Aun W base v L) : ∃ A c, v = .slice A L.length c := by
  rcases h.2 with ⟨h1, h2⟩ | ⟨g, cap, cur, e, -⟩
  · rw [h1, h2]
    exact ⟨_, _, rfl⟩
  · exact ⟨_, _, e⟩
theorem Aun.kept (h : Aun W base v L) (hb : Below W.heap.size W W') : Aun W' base v L := by
  refine ⟨h.1, ?_⟩
  rcases h.2 with h2 | ⟨g, cap, cur, rfl, hb1, hh, r⟩
  · exact .inl h2
  · exact .inr ⟨g, cap, cur, rfl, hb1, (hb.block g (lt_of_block hh)).trans hh, r⟩
theorem Aun.lt (h : Aun W base v L) : ∀ k, v.ownBlock = some k → base ≤ k ∧ k < W.heap.size := World.ownsRow.lt h
/-- Indices that are appended. -/
def SrcU (W : World) (v : Value) (M : List Nat) : Prop := (v = .slice none 0 0 ∧ M = []) ∨ ∃ g o c, v = .slice (some ⟨g, o, none⟩) M.length c ∧ Nu W W.heap.size (some ⟨g, o, none⟩) M
theorem SrcU.new {M : List Nat} (h : SrcU W v M) (hb : Below W.heap.size W W') : SrcU W' v M := by
  rcases h with h | ⟨g, o, c, e, r⟩
  · exact .inl h
  · exact .inr ⟨g, o, c, e, Nu.new r hb⟩
theorem SrcU.cells {g o : Nat} {M : List Nat} (h : Nu W W.heap.size (some ⟨g, o, none⟩) M) : ∀ j u, (nus M)[j]? = some u → W.cell? ((⟨g, o, none⟩ : Addr).add j) = some u := fun j u hu => by
  obtain ⟨g', o', e, -, r⟩ := h (by intro e; rw [e] at hu; cases hu)
  cases e
  have := r j u hu
  rw [add_plain]
  exact this
end
end Go.Proofs.YtlmecjnlinalkaaDoor

namespace Go.Proofs.YtlmecjnlinalkaaDoor
open Go.RowKit

theorem shl_u64 (t : TypeId) (a j : Nat) (k : IntKind) (h : a * 2 ^ j < 18446744073709551616) (hj : j ≤ 64) : binOp .shl t (.int .u64 (a : Int)) (.int k (j : Int)) = pure (.int .u64 ((a * 2 ^ j : Nat) : Int)) := by
  simp only [binOp]
  unfold Op.shift
  rw [if_neg (by omega)]
  simp only
  congr 2
  show IntKind.u64.wrap ((a : Int) * 2 ^ (min (j : Int).toNat 64)) = _
  have e : (a : Int) * 2 ^ (min (j : Int).toNat 64) = ((a * 2 ^ j : Nat) : Int) := by
    rw [Int.toNat_natCast, Nat.min_eq_left hj, Int.natCast_mul, Int.natCast_pow]
    rfl
  rw [e, IntKind.wrap_u64]
  omega
end Go.Proofs.YtlmecjnlinalkaaDoor

namespace Go.Proofs.YtlmecjnlinalkaaDoor
open Go.RowKit

theorem run_in_to (g o n c k : Nat) (hk : k ≤ c) (V : World) : (Instr.slice 58 (.slice (some ⟨g, o, none⟩) n c) none (some (.int .i64 (k : Int))) none).run Tryd.prog V = .ok (.slice (some ⟨g, o, none⟩) k c) V := by
  obtain ⟨i, hi, hz, hsz, hby⟩ := infoU_parts
  have h1 : ((k : Nat) : Int) ≤ (c : Int) := by omega
  have h2 : (Addr.mk g o none).add 0 = ⟨g, o, none⟩ := by rw [add_plain, Nat.add_zero]
  simp [Instr.slice, Instr.sliceBounds, run_underlying Tryd.underlying58, run_sliceBound, sizeOf, typeInfo, hi, h1, h2]
theorem run_in_from (g o n c k : Nat) (hk : k ≤ n) (hn : n ≤ c) (V : World) : (Instr.slice 58 (.slice (some ⟨g, o, none⟩) n c) (some (.int .i64 (k : Int))) none none).run Tryd.prog V = .ok (.slice (some (if c = k then ⟨g, o, none⟩ else ⟨g, o + k, none⟩)) (n - k) (c - k)) V := by
  obtain ⟨i, hi, hz, hsz, hby⟩ := infoU_parts
  have h1 : ((k : Nat) : Int) ≤ (n : Int) := by omega
  have h2 : (Addr.mk g o none).add (k * i.size) = ⟨g, o + k, none⟩ := by rw [add_plain, hsz]; simp
  by_cases e : c = k
  · subst e
    obtain rfl : n = c := by omega
    simp [Instr.slice, Instr.sliceBounds, run_underlying Tryd.underlying58, run_sliceBound, sizeOf, typeInfo, hi]
  · have e2 : ¬ ((c : Int) = (k : Int)) := by omega
    rw [if_neg e]
    simp [Instr.slice, Instr.sliceBounds, run_underlying Tryd.underlying58, run_sliceBound, sizeOf, typeInfo, hi, h1, h2]
    omega
theorem Nu.take {W : World} {B g o k : Nat} {l : List Nat} (h : Nu W B (some ⟨g, o, none⟩) l) : Nu W B (some ⟨g, o, none⟩) (l.take k) := fun hne => by
  obtain ⟨g', o', e, hlt, r⟩ := h (fun e => hne (by rw [nus_take, e, List.take_nil]))
  cases e
  refine ⟨g, o, rfl, hlt, fun j u hu => r j u ?_⟩
  rw [nus_take, List.getElem?_take] at hu
  split at hu
  · exact hu
  · cases hu
theorem Nu.drop {W : World} {B g o k c : Nat} {l : List Nat} (h : Nu W B (some ⟨g, o, none⟩) l) (hc : l.length ≤ c) : Nu W B (some (if c = k then ⟨g, o, none⟩ else ⟨g, o + k, none⟩)) (l.drop k) := fun hne => by
  obtain ⟨g', o', e, hlt, r⟩ := h (fun e => hne (by rw [nus_drop, e, List.drop_nil]))
  cases e
  have hck : c ≠ k := by
    rintro rfl
    exact hne (by rw [List.drop_eq_nil_of_le hc]; rfl)
  rw [if_neg hck]
  refine ⟨g, o + k, rfl, hlt, fun j u hu => ?_⟩
  rw [nus_drop, List.getElem?_drop] at hu
  have := r (k + j) u hu
  rwa [← Nat.add_assoc] at this
section
variable (gf : Nat) (lb : Array Value) (J : List Evt → World → Prop) (E : List Evt)
/-- What is asked of whom a walk reports to. -/
def ReachC : Prop := ∀ (pre : List Evt) (e : Evt) (post : List Evt) (V : World), E = pre ++ e :: post → J pre V →
  Calls Tryd.prog gf (#[.int .i64 (e.1 : Int), .int .i64 (e.2.1 : Int), .int .u64 (e.2.2 : Int)] ++ lb) V fun r V' => r = .returned (.tuple #[]) ∧ J (pre ++ [e]) V'
/-- What a walk from a level does. -/
def WalkC (k : Nat) : Prop := ∀ (p : Nat) (l : List Nat) (A : Option Addr) (c : Nat) (pre post : List Evt) (W : World), l.Pairwise (· < ·) → l.length ≤ 1000000 → l.length ≤ c → (p + 1) * 2 ^ k ≤ 4294967296 →
  E = pre ++ (walkE k p l ++ post) → (∀ pre V, J pre V → Nu V V.heap.size A l) → J pre W →
  Calls Tryd.prog 65 #[.int .i64 (k : Int), .int .u64 (p : Int), .slice A l.length c, .func (.func gf) #[] lb] W fun r W' => r = .returned (.tuple #[]) ∧ J (pre ++ walkE k p l) W'
end
section
variable {gf : Nat} {lb : Array Value} {J : List Evt → World → Prop} {E : List Evt}
set_option maxRecDepth 100000 in
set_option maxHeartbeats 1000000 in
theorem walk_none (hcf : ∀ args V, (callFunc gf args).run Tryd.prog V = .ok (.enter gf args) V) (HE : ReachC gf lb J E) (k p : Nat) (A : Option Addr) (c : Nat) (pre post : List Evt) (W : World) (hE : E = pre ++ ((0, k, p) :: post)) (h0 : J pre W) :
    Calls Tryd.prog 65 #[.int .i64 (k : Int), .int .u64 (p : Int), .slice A 0 c, .func (.func gf) #[] lb] W fun r W' => r = .returned (.tuple #[]) ∧ J (pre ++ [(0, k, p)]) W' := by
  have HC := hid (show Calls Tryd.prog gf (#[.int .i64 0, .int .i64 (k : Int), .int .u64 (p : Int)] ++ lb) W (fun r V' => r = .returned (.tuple #[]) ∧ J (pre ++ [(0, k, p)]) V') from HE pre (0, k, p) post W hE h0)
  clear HE hE h0
  go_enter Tryd.func65, Tryd.ntmps65
  go_wp2
  refine HC.out.mono ?_
  rintro r1 w1 ⟨rfl, h1⟩
  have H1 := hid h1
  clear h1
  go_wp2
  refine bodyPost_end (results_none rfl _ _ _) rfl ?_
  exact ⟨rfl, H1.out⟩
set_option maxRecDepth 100000 in
set_option maxHeartbeats 1000000 in
theorem walk_leaf (hcf : ∀ args V, (callFunc gf args).run Tryd.prog V = .ok (.enter gf args) V) (HE : ReachC gf lb J E) (p n : Nat) (hn : n ≠ 0) (A : Option Addr) (c : Nat) (pre post : List Evt) (W : World) (hE : E = pre ++ ((1, 0, p) :: post)) (h0 : J pre W) :
    Calls Tryd.prog 65 #[.int .i64 0, .int .u64 (p : Int), .slice A n c, .func (.func gf) #[] lb] W fun r W' => r = .returned (.tuple #[]) ∧ J (pre ++ [(1, 0, p)]) W' := by
  have HC := hid (show Calls Tryd.prog gf (#[.int .i64 1, .int .i64 0, .int .u64 (p : Int)] ++ lb) W (fun r V' => r = .returned (.tuple #[]) ∧ J (pre ++ [(1, 0, p)]) V') from HE pre (1, 0, p) post W hE h0)
  have f0 : ((n : Int) == 0) = false := by simp; omega
  have f1 : decide ((n : Int) = 0) = false := by simp; omega
  have f2 : decide (n = 0) = false := by simpa using hn
  clear HE hE h0
  go_enter Tryd.func65, Tryd.ntmps65
  go_wp2
  refine HC.out.mono ?_
  rintro r1 w1 ⟨rfl, h1⟩
  have H1 := hid h1
  clear h1
  go_wp2
  refine bodyPost_end (results_none rfl _ _ _) rfl ?_
  exact ⟨rfl, H1.out⟩
set_option maxRecDepth 100000 in
set_option maxHeartbeats 2000000 in
theorem walk_step (hcf : ∀ args V, (callFunc gf args).run Tryd.prog V = .ok (.enter gf args) V) (HE : ReachC gf lb J E) (k : Nat) (hk : k < 32) (IH : WalkC gf lb J E k) (p : Nat) (l : List Nat) (hne : l ≠ []) (A : Option Addr) (c : Nat) (pre post : List Evt) (W : World) (hs : l.Pairwise (· < ·)) (hl : l.length ≤ 1000000) (hc : l.length ≤ c) (hp : (p + 1) * 2 ^ (k + 1) ≤ 4294967296)
    (hE : E = pre ++ (walkE (k + 1) p l ++ post)) (hN : ∀ pre V, J pre V → Nu V V.heap.size A l) (h0 : J pre W) :
    Calls Tryd.prog 65 #[.int .i64 ((k + 1 : Nat) : Int), .int .u64 (p : Int), .slice A l.length c, .func (.func gf) #[] lb] W fun r W' => r = .returned (.tuple #[]) ∧ J (pre ++ walkE (k + 1) p l) W' := by
  rw [walkE_step hne] at hE ⊢
  obtain ⟨g, o, rfl, -, -⟩ := (hN pre W h0).at (j := 0) (List.length_pos_iff.2 hne)
  obtain ⟨hr1, hr2, hr3⟩ := half_room hp
  obtain ⟨p2, hp2⟩ : ∃ q, q = 2 * p := ⟨_, rfl⟩
  obtain ⟨p3, hp3⟩ : ∃ q, q = p2 + 1 := ⟨_, rfl⟩
  have e1 : 2 * (p : Int) = (p2 : Int) := by omega
  have ew1 : IntKind.u64.wrap (p2 : Int) = (p2 : Int) := by rw [IntKind.wrap_u64]; omega
  have e2 : (p2 : Int) + 1 = (p3 : Int) := by omega
  have ew2 : IntKind.u64.wrap (p3 : Int) = (p3 : Int) := by rw [IntKind.wrap_u64]; omega
  obtain ⟨k1, hk1⟩ : ∃ q, q = k + 1 := ⟨_, rfl⟩
  have e3 : (k1 : Int) - 1 = (k : Int) := by omega
  have ew3 : IntKind.i64.wrap (k : Int) = (k : Int) := by rw [IntKind.wrap_i64] <;> omega
  obtain ⟨m, hm⟩ : ∃ q, q = p3 * 2 ^ k := ⟨_, rfl⟩
  rw [← hp2] at hr1 hr2 hr3 hE ⊢
  rw [← hp3] at hr1 hr2 hr3 hE ⊢
  rw [← hm] at hr1 hE ⊢
  have hsh : binOp .shl 23 (.int .u64 (p3 : Int)) (.int .i64 (k : Int)) = pure (.int .u64 (m : Int)) := by
    rw [hm]
    exact shl_u64 _ p3 k .i64 (by rw [← hm]; omega) (by omega)
  have f0 : ((l.length : Int) == 0) = false := by have := List.length_pos_iff.2 hne; simp; omega
  have hn0 : l.length ≠ 0 := by have := List.length_pos_iff.2 hne; omega
  have f1 : decide (l.length = 0) = false := by simpa using hn0
  have g0 : ((k1 : Int) == 0) = false := by simp; omega
  have g1 : decide (k1 = 0) = false := by simp; omega
  have HB := hid (pbsearch_any l hs m (some ⟨g, o, none⟩) c W (hN pre W h0) hl)
  rw [← hk1] at hE ⊢
  have HC := hid hc
  have HL := hid hl
  have HS := hid hs
  have HP := hid hr1
  have HP2 := hid hr2
  have HM := hid hm
  have HP3 := hid hp3
  have H0 := hid h0
  have HN := hid hN
  have HIH := hid IH
  have HEE := hid hE
  have HRE := hid HE
  obtain ⟨n, hn⟩ : ∃ n, n = l.length := ⟨_, rfl⟩
  have HNL := hid hn
  rw [← hn] at HB HC f0 f1 ⊢
  clear hs hl hc hp hE hN h0 HE IH hr1 hr2 hr3 hp2 hp3 hk1 hm hn0 hn hk
  go_enter Tryd.func65, Tryd.ntmps65
  go_wp2_with (first
    | (go_at_call 96; refine HB.out.mono ?_; rintro r1 w1 ⟨q, fb, rfl, hcut, hw⟩; rw [hw]; clear hw HB; have HCU := hid hcut; clear hcut; have hs1 := run_in_to g o n c q (by have := HCU.out.le; have := HNL.out; have := HC.out; omega); have hs2 := run_in_from g o n c q (by have := HCU.out.le; have := HNL.out; omega) HC.out; obtain ⟨A3, hA3⟩ : ∃ a : Addr, a = (if c = q then (⟨g, o, none⟩ : Addr) else ⟨g, o + q, none⟩) := ⟨_, rfl⟩; rw [← hA3] at hs2; have HA3 := hid hA3; clear hA3))
  have hqn : q ≤ l.length := HCU.out.le
  have hEE := HEE.out
  rw [← HCU.out.take, ← HCU.out.drop] at hEE
  have hlt : (l.take q).length = q := by rw [List.length_take]; omega
  have hld : (l.drop q).length = n - q := by rw [List.length_drop, HNL.out]
  have ML := HIH.out p2 (l.take q) (some ⟨g, o, none⟩) c pre (walkE k p3 (l.drop q) ++ ((2, k1, p) :: post)) W (HS.out.sublist (List.take_sublist _ _)) (by have := HL.out; omega) (by have := HNL.out; have := HC.out; omega) (by rw [← HP3.out, ← HM.out]; exact HP.out) (by rw [hEE]; simp) (fun pre V h => (HN.out pre V h).take) H0.out
  rw [hlt] at ML
  have MR := hid (fun (V : World) (hj : J (pre ++ walkE k p2 (l.take q)) V) => HIH.out p3 (l.drop q) (some (if c = q then ⟨g, o, none⟩ else ⟨g, o + q, none⟩)) (c - q) (pre ++ walkE k p2 (l.take q)) ((2, k1, p) :: post) V (HS.out.sublist (List.drop_sublist _ _)) (by have := HL.out; have := HNL.out; omega) (by have := HNL.out; have := HC.out; omega) HP2.out (by rw [hEE]; simp) (fun pre V h => (HN.out pre V h).drop (by rw [← HNL.out]; exact HC.out)) hj)
  rw [hld, ← HA3.out] at MR
  have MC := hid (fun (V : World) (hj : J (pre ++ walkE k p2 (l.take q) ++ walkE k p3 (l.drop q)) V) => show Calls Tryd.prog gf (#[.int .i64 2, .int .i64 (k1 : Int), .int .u64 (p : Int)] ++ lb) V (fun r V' => r = .returned (.tuple #[]) ∧ J (pre ++ walkE k p2 (l.take q) ++ walkE k p3 (l.drop q) ++ [(2, k1, p)]) V') from HRE.out (pre ++ walkE k p2 (l.take q) ++ walkE k p3 (l.drop q)) (2, k1, p) post V (by rw [hEE]; simp) hj)
  obtain ⟨EL, hEL⟩ : ∃ E, E = walkE k p2 (l.take q) := ⟨_, rfl⟩
  obtain ⟨ER, hER⟩ : ∃ E, E = walkE k p3 (l.drop q) := ⟨_, rfl⟩
  rw [← hEL] at ML MR MC
  rw [← hER] at MR MC
  have HEL := hid hEL
  have HER := hid hER
  clear hEE HEE HRE HIH HN H0 hlt hld hqn hEL hER
  refine ML.mono ?_
  rintro r2 w2 ⟨rfl, h2⟩
  have H2 := hid h2
  clear h2 ML
  go_wp2_with (first
    | (go_at_call 65; refine (MR.out w2 H2.out).mono ?_; rintro r3 w3 ⟨rfl, h3⟩; have H3 := hid h3; clear h3 MR))
  refine (MC.out w3 H3.out).mono ?_
  rintro r4 w4 ⟨rfl, h4⟩
  have H4 := hid h4
  clear h4 MC
  go_wp2
  refine bodyPost_end (results_none rfl _ _ _) rfl ?_
  have h5 := H4.out
  rw [HEL.out, HER.out, HCU.out.take, HCU.out.drop, List.append_assoc, List.append_assoc] at h5
  exact ⟨rfl, h5⟩
/-- A walk, from every level. -/
theorem walk_any (hcf : ∀ args V, (callFunc gf args).run Tryd.prog V = .ok (.enter gf args) V) (HE : ReachC gf lb J E) : ∀ k, k ≤ 32 → WalkC gf lb J E k := by
  intro k
  induction k with
  | zero =>
    intro _ p l A c pre post W hs hl hc hp hE hN h0
    by_cases h : l = []
    · subst h
      rw [walkE_nil] at hE ⊢
      exact walk_none hcf HE 0 p A c pre post W hE h0
    · rw [walkE_leaf h] at hE ⊢
      exact walk_leaf hcf HE p l.length (by have := List.length_pos_iff.2 h; omega) A c pre post W hE h0
  | succ k ih =>
    intro hk p l A c pre post W hs hl hc hp hE hN h0
    by_cases h : l = []
    · subst h
      rw [walkE_nil] at hE ⊢
      exact walk_none hcf HE (k + 1) p A c pre post W hE h0
    · exact walk_step hcf HE k (by omega) (ih (by omega)) p l h A c pre post W hs hl hc hp hE hN h0
end
end Go.Proofs.YtlmecjnlinalkaaDoor
