/-
  The program's sets of keys: as values, in memory; a session's key.
-/
import Derived.Test.YtnaihcoafgigcaaDoorPk
import Derived.Test.YtnaihcoafgigcaaDoorX0
import Derived.Laws.Tables
import Derived.Test.YtnaihcoafgigcaaDoorY1
namespace Go.Proofs.YtnaihcoafgigcaaDoor
open Go.RowKit

/-- A set of keys: its bytes. -/
def setL (key : List UInt8) : List UInt8 := keyEnc key ++ (keyTag key ++ (keyTicket key ++ keyLink key))
theorem setL_length (key : List UInt8) : (setL key).length = 112 := by simp [setL, keyEnc_length, keyTag_length, keyTicket_length, keyLink_length]
def n112 : List UInt8 := List.replicate 112 0
theorem n112_length : n112.length = 112 := by simp [n112]
theorem sizeSet : (Tryd.prog.info? 63).map (·.size) = some 112 := by kernel_rfl
theorem sizeSet_of {l : List UInt8} (h : l.length = 112) : (Tryd.prog.info? 63).map (·.size) = some (ubs l).toArray.size := by rw [sizeSet]; simp [ubs_length, h]
theorem fill_one (l : List UInt8) (o : Nat) (vs : List UInt8) : (((ubs vs).toArray.zipIdx.foldl (fun cs (c, j) => cs.setIfInBounds (o + j) c) (ubs l).toArray) : Array Value) = (ubs (spl l o vs)).toArray := by
  have key : ∀ (vs : List UInt8) (k : Nat) (l : List UInt8), (((ubs vs).zipIdx k).foldl (fun (cs : Array Value) (c : Value × Nat) => cs.setIfInBounds (o + c.2) c.1) (ubs l).toArray) = (ubs (spl l (o + k) vs)).toArray := by
    intro vs
    induction vs with
    | nil => intro k l; rfl
    | cons v r ih =>
      intro k l
      have := ih (k + 1) (l.set (o + k) v)
      rw [show ubs (v :: r) = ub v :: ubs r from rfl, List.zipIdx_cons, List.foldl_cons, spl]
      rw [show o + (k + 1) = o + k + 1 by omega] at this
      rw [← this]
      congr 1
      simp [ubs, List.map_set]
  have := key vs 0 l
  rw [Nat.add_zero] at this
  rw [← this, ← Array.foldl_toList, Array.toList_zipIdx]
theorem built_set (e a b c : List UInt8) (he : e.length = 16) (ha : a.length = 32) (hb : b.length = 32) (hc : c.length = 32) :
    Tryd.prog.built 63 [(0, .agg (ubs e).toArray), (1, .agg (ubs a).toArray), (2, .agg (ubs b).toArray), (3, .agg (ubs c).toArray)] = some (ubs (e ++ (a ++ (b ++ c)))).toArray := by
  have hz : (Tryd.prog.info? 63).bind (·.zero) = some (.agg (ubs n112).toArray) := by kernel_rfl
  obtain ⟨it, hit, hzero⟩ : ∃ it, Tryd.prog.info? 63 = some it ∧ it.zero = some (.agg (ubs n112).toArray) := by
    cases h : Tryd.prog.info? 63 with
    | none => rw [h] at hz; cases hz
    | some it => rw [h] at hz; exact ⟨it, rfl, hz⟩
  obtain ⟨fs, hu, hp⟩ : ∃ fs, Tryd.prog.underlying 63 = some (.struct fs) ∧ fs.toList.mapM (fun f => (Tryd.prog.info? f.type).map fun i => (f.offset, i.size)) = some [(0, 16), (16, 32), (48, 32), (80, 32)] := ⟨_, Tryd.underlying63, by kernel_rfl⟩
  unfold Program.built
  simp only [hit, hu, hzero, hp]
  have s1 : spl n112 0 e = e ++ List.replicate 96 0 := by
    have := spl_at [] (List.replicate 16 0) (List.replicate 96 0) e (by simp [he])
    exact this
  have s2 : spl (e ++ List.replicate 96 0) 16 a = e ++ (a ++ List.replicate 64 0) := by
    have := spl_at e (List.replicate 32 0) (List.replicate 64 0) a (by simp [ha])
    rw [he] at this
    exact this
  have s3 : spl (e ++ (a ++ List.replicate 64 0)) 48 b = e ++ (a ++ (b ++ List.replicate 32 0)) := by
    have := spl_at (e ++ a) (List.replicate 32 0) (List.replicate 32 0) b (by simp [hb])
    rw [List.length_append, he, ha] at this
    simpa [List.append_assoc] using this
  have s4 : spl (e ++ (a ++ (b ++ List.replicate 32 0))) 80 c = e ++ (a ++ (b ++ c)) := by
    have := spl_at (e ++ (a ++ b)) (List.replicate 32 0) [] c (by simp [hc])
    rw [List.length_append, List.length_append, he, ha, hb] at this
    simpa [List.append_assoc] using this
  have step : ∀ (i off n : Nat) (l vs : List UInt8) (rest : List (Nat × Value)), [(0, 16), (16, 32), (48, 32), (80, 32)].toArray[i]? = some (off, n) → vs.length = n → off + n ≤ l.length →
      Instr.fill ([(0, 16), (16, 32), (48, 32), (80, 32)].toArray[·]?) (ubs l).toArray ((i, .agg (ubs vs).toArray) :: rest) = Instr.fill ([(0, 16), (16, 32), (48, 32), (80, 32)].toArray[·]?) (ubs (spl l off vs)).toArray rest := by
    intro i off n l vs rest hi hv hl
    rw [Instr.fill]
    simp only [hi]
    rw [if_neg (by simp [Value.cells, ubs_length, hv, hl])]
    show Instr.fill _ (((ubs vs).toArray.zipIdx.foldl (fun cs (c, j) => cs.setIfInBounds (off + j) c) (ubs l).toArray)) rest = _
    rw [fill_one]
  show Instr.fill _ (ubs n112).toArray _ = _
  rw [step 0 0 16 n112 e _ rfl he (by rw [n112_length]; omega), s1, step 1 16 32 _ a _ rfl ha (by simp [he]), s2, step 2 48 32 _ b _ rfl hb (by simp [he, ha]), s3, step 3 80 32 _ c _ rfl hc (by simp [he, ha, hb]), s4]
  rfl
end Go.Proofs.YtnaihcoafgigcaaDoor
