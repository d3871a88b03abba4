/-
  A sealed block as a value; its parts in memory.
-/
import Derived.Test.YtnaihcoafgigcaaDoorSc
import Derived.Test.YtnaihcoafgigcaaDoorX0
import Derived.Test.YtnaihcoafgigcaaDoorY4
namespace Go.Proofs.YtnaihcoafgigcaaDoor
open Go.RowKit

/-- A sealed block's cells. -/
def sv (e : Nat) (d t : List UInt8) : List Value := .int .u64 (e : Int) :: (ubs d ++ ubs t)
theorem sv_length (e : Nat) (d t : List UInt8) (hd : d.length = 32) (ht : t.length = 16) : (sv e d t).length = 49 := by simp [sv, ubs_length, hd, ht]
theorem sv_all (e : Nat) (d t : List UInt8) : (sv e d t).toArray.all (·.oneCell') = true :=
  Array.all_eq_true_iff_forall_mem.2 (fun v hv => by
    simp only [sv, List.mem_toArray, List.mem_cons, List.mem_append] at hv
    rcases hv with rfl | hv | hv
    · rfl
    · exact ubs_one d v hv
    · exact ubs_one t v hv)
theorem sv_epoch {W : World} {g e : Nat} {d t : List UInt8} {T : TypeId} (h : At W g (sv e d t).toArray T) : W.cell? ⟨g, 0, none⟩ = some (.int .u64 (e : Int)) := by
  rw [h.cell]
  rfl
theorem sv_data {W : World} {g e : Nat} {d t : List UInt8} {T : TypeId} (h : At W g (sv e d t).toArray T) : W.rangeAt g 1 (ubs d) :=
  range_vals (a := [.int .u64 (e : Int)]) (m := ubs d) (z := ubs t) h rfl
theorem sv_tag {W : World} {g e : Nat} {d t : List UInt8} {T : TypeId} (h : At W g (sv e d t).toArray T) (hd : d.length = 32) : W.rangeAt g 33 (ubs t) := by
  have := range_vals (a := .int .u64 (e : Int) :: ubs d) (m := ubs t) (z := []) h (by simp [sv])
  rw [List.length_cons, ubs_length, hd] at this
  exact this
theorem sizeSv : (Tryd.prog.info? 38).map (·.size) = some 49 := by kernel_rfl
theorem zeroSv : (Tryd.prog.info? 38).bind (·.zero) = some (.agg (sv 0 n32 n16).toArray) := by kernel_rfl
theorem run_loadB {o : Oper} {a : Go.Act} {W : World} (x : Operand) (ho : o.op = .load 28 x) (b off : Nat) (hx : a.eval x = .pointer (some ⟨b, off, none⟩)) (l : List UInt8) (hc : W.rangeAt b off (ubs l)) (hl : l.length = 32) : (execOp a.eval o).run Tryd.prog W = .ok (.value (.agg (ubs l).toArray)) W :=
  run_load_part _ x ho b off hx (ubs l) _ hc Tryd.underlying28 rfl (by rw [sizeBk, ubs_length, hl])
theorem run_load16 {o : Oper} {a : Go.Act} {W : World} (x : Operand) (ho : o.op = .load 22 x) (b off : Nat) (hx : a.eval x = .pointer (some ⟨b, off, none⟩)) (l : List UInt8) (hc : W.rangeAt b off (ubs l)) (hl : l.length = 16) : (execOp a.eval o).run Tryd.prog W = .ok (.value (.agg (ubs l).toArray)) W :=
  run_load_part _ x ho b off hx (ubs l) _ hc Tryd.underlying22 rfl (by rw [size16, ubs_length, hl])
theorem built_sv (e : Nat) (d t : List UInt8) (hd : d.length = 32) (ht : t.length = 16) : Tryd.prog.built 38 [(0, .int .u64 (e : Int)), (1, .agg (ubs d).toArray), (2, .agg (ubs t).toArray)] = some (sv e d t).toArray := by
  obtain ⟨it, hit, hzero⟩ : ∃ it, Tryd.prog.info? 38 = some it ∧ it.zero = some (.agg (sv 0 n32 n16).toArray) := by
    have hz := zeroSv
    cases h : Tryd.prog.info? 38 with
    | none => rw [h] at hz; cases hz
    | some it => rw [h] at hz; exact ⟨it, rfl, hz⟩
  obtain ⟨fs, hu, hp⟩ : ∃ fs, Tryd.prog.underlying 38 = some (.struct fs) ∧ fs.toList.mapM (fun f => (Tryd.prog.info? f.type).map fun i => (f.offset, i.size)) = some [(0, 1), (1, 32), (33, 16)] := ⟨_, Tryd.underlying38, by kernel_rfl⟩
  unfold Program.built
  simp only [hit, hu, hzero, hp]
  have s1 : spv (sv 0 n32 n16) 0 [.int .u64 (e : Int)] = sv e n32 n16 := rfl
  have s2 : spv (sv e n32 n16) 1 (ubs d) = sv e d n16 := by
    have := spv_at [.int .u64 (e : Int)] (ubs n32) (ubs n16) (ubs d) (by simp [ubs_length, n32_length, hd])
    exact this
  have s3 : spv (sv e d n16) 33 (ubs t) = sv e d t := by
    have := spv_at (.int .u64 (e : Int) :: ubs d) (ubs n16) [] (ubs t) (by simp [ubs_length, n16_length, ht])
    rw [List.length_cons, ubs_length, hd, List.append_nil, List.append_nil] at this
    exact this
  show Instr.fill _ (sv 0 n32 n16).toArray _ = _
  rw [fill_step _ 0 0 1 (sv 0 n32 n16) [.int .u64 (e : Int)] _ _ rfl rfl rfl (by rw [sv_length 0 n32 n16 n32_length n16_length]; omega), s1,
    fill_step _ 1 1 32 _ (ubs d) _ _ rfl rfl (by rw [ubs_length, hd]) (by rw [sv_length e n32 n16 n32_length n16_length]; omega), s2,
    fill_step _ 2 33 16 _ (ubs t) _ _ rfl rfl (by rw [ubs_length, ht]) (by rw [sv_length e d n16 hd n16_length]; omega), s3]
  rfl
theorem run_build_sv {o : Oper} {a : Go.Act} {W : World} (x y z : Operand) (ho : o.op = .build 38 #[(0, x), (1, y), (2, z)]) (e : Nat) (d t : List UInt8) (hd : d.length = 32) (ht : t.length = 16)
    (hx : a.eval x = .int .u64 (e : Int)) (hy : a.eval y = .agg (ubs d).toArray) (hz : a.eval z = .agg (ubs t).toArray) : (execOp a.eval o).run Tryd.prog W = .ok (.value (.agg (sv e d t).toArray)) W :=
  run_build_of _ _ ho _ (by
    have := built_sv e d t hd ht
    rw [← this]
    simp [hx, hy, hz])
theorem run_build_sv0 {o : Oper} {a : Go.Act} {W : World} (ho : o.op = .build 38 #[]) : (execOp a.eval o).run Tryd.prog W = .ok (.value (.agg (sv 0 n32 n16).toArray)) W :=
  run_build_of _ _ ho _ (by kernel_rfl)
theorem run_build_block0 {o : Oper} {a : Go.Act} {W : World} (ho : o.op = .build 28 #[]) : (execOp a.eval o).run Tryd.prog W = .ok (.value (.agg (ubs n32).toArray)) W :=
  run_build_of _ _ ho _ (by kernel_rfl)
end Go.Proofs.YtnaihcoafgigcaaDoor
