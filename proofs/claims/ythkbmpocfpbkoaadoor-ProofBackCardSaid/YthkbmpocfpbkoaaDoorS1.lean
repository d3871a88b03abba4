/-
  What Go's sort comes to, in plain words: a part of a row is sorted once its own rounds are done. Nothing here speaks of the program.
  A row of numbers that Go's sort works on: what it holds, what an exchange makes of it.
  Indices in order, each once: what is left of sorted ones where each that is as the one ahead of it goes away. Nothing here walks.
  Numbers of which each that is as the one ahead of it goes away, where they lie: what holds between the rounds. Nothing here walks.
-/
import Derived.Sort.LotA
import Derived.Sort.LotB
import Derived.Sort.LotC
import Derived.Test.YthkbmpocfpbkoaaDoorK6
import Derived.Test.YthkbmpocfpbkoaaDoorK1
import Derived.Sort.Row
namespace Go.Proofs.YthkbmpocfpbkoaaDoor
open Go.Sort

def ltN (x y : Nat) : Bool := decide (x < y)
theorem ltN_true {x y : Nat} : ltN x y = true ↔ x < y := by simp [ltN]
theorem ltN_false {x y : Nat} : ltN x y = false ↔ y ≤ x := by simp [ltN]
theorem swoN : SWO ltN where
  irrefl x := by simp [ltN]
  trans x y z h k := by rw [ltN_true] at *; omega
  ntrans x y z h k := by rw [ltN_false] at *; omega

/-- Where the rounds of the sort are: of the places from a0 to b0 those from a to b are left. -/
structure Pq (a0 b0 : Nat) (d0 : Array Nat) (a b : Nat) (d : Array Nat) : Prop where
  ha : a0 ≤ a
  hab : a ≤ b
  hb : b ≤ b0
  perm : PermIn a0 b0 d0 d
  below : Below ltN a b d
  done : ∀ i j, a0 ≤ i → i < j → j < b0 → (i < a ∨ b ≤ j) → d[i]! ≤ d[j]!
section
variable {a0 b0 a b : Nat} {d0 d d' d'' : Array Nat}
theorem Pq.size (h : Pq a0 b0 d0 a b d) : d.size = d0.size := h.perm.1
theorem Pq.start (hab : a0 ≤ b0) (hb : Below ltN a0 b0 d0) : Pq a0 b0 d0 a0 b0 d0 :=
  ⟨Nat.le_refl _, hab, Nat.le_refl _, permIn_refl _ _ _, hb, fun i j h1 h2 h3 h4 => by omega⟩
/-- What is left is permuted. -/
theorem Pq.perm_ (h : Pq a0 b0 d0 a b d) (hs : b0 ≤ d0.size) (hp : PermIn a b d d') : Pq a0 b0 d0 a b d' := by
  have hsz := h.size
  have hb := h.hb
  refine ⟨h.ha, h.hab, h.hb, permIn_trans _ _ _ _ _ h.perm (permIn_mono _ _ _ _ _ _ h.ha h.hb (by omega) hp), h.below.permA permIn_all (by omega) hp, fun i j h1 h2 h3 h4 => ?_⟩
  by_cases hi : a ≤ i ∧ i < b
  · have hj : b ≤ j := by omega
    rw [hp.2.1 j (.inr hj)]
    exact permIn_all d d' a b (fun x => x ≤ d[j]!) (by omega) hp (fun k hk1 hk2 => h.done k j (by have := h.ha; omega) (by omega) h3 (.inr hj)) i hi.1 hi.2
  · rw [hp.2.1 i (by omega)]
    by_cases hj : a ≤ j ∧ j < b
    · exact permIn_all d d' a b (fun x => d[i]! ≤ x) (by omega) hp (fun k hk1 hk2 => h.done i k h1 (by omega) (by omega) (by omega)) j hj.1 hj.2
    · rw [hp.2.1 j (by omega)]
      exact h.done i j h1 h2 h3 h4
/-- What is left is sorted: all is. -/
theorem Pq.end_ (h : Pq a0 b0 d0 a b d) (hs : b0 ≤ d0.size) (hp : PermIn a b d d') (hd : SortedIn ltN a b d') : PermIn a0 b0 d0 d' ∧ SortedIn ltN a0 b0 d' := by
  have k := h.perm_ hs hp
  refine ⟨k.perm, fun i j h1 h2 h3 => ?_⟩
  rw [ltN_false]
  by_cases hij : i < a ∨ b ≤ j
  · exact k.done i j h1 h2 h3 hij
  · have := hd i j (by omega) h2 (by omega)
    rwa [ltN_false] at this
/-- The pivot was as great as what lies ahead: what is as great goes away. -/
theorem Pq.equal (h : Pq a0 b0 d0 a b d) (hs : b0 ≤ d0.size) {m p : Nat} (hp : PermIn a b d d') (h1 : a < m) (h2 : m ≤ b) (hle : ∀ i, a ≤ i → i < m → d'[i]! ≤ d[p]!) (hgt : ∀ i, m ≤ i → i < b → d[p]! < d'[i]!) (hmin : ∀ i, a ≤ i → i < b → d[p]! ≤ d[i]!) : Pq a0 b0 d0 m b d' := by
  have k := h.perm_ hs hp
  have hsz := h.size
  have hb := h.hb
  have hmin' := permIn_all d d' a b (fun x => d[p]! ≤ x) (by omega) hp hmin
  refine ⟨by have := h.ha; omega, h2, h.hb, k.perm, .inr fun i q1 q2 => ?_, fun i j q1 q2 q3 q4 => ?_⟩
  · rw [ltN_false]
    have := hle (m - 1) (by omega) (by omega)
    have := hgt i q1 q2
    omega
  · by_cases hij : i < a ∨ b ≤ j
    · exact k.done i j q1 q2 q3 hij
    · have hi : i < m := by omega
      have := hle i (by omega) hi
      have := hmin' j (by omega) (by omega)
      omega
/-- The left part is sorted, the right one is left. -/
theorem Pq.left (h : Pq a0 b0 d0 a b d) (hs : b0 ≤ d0.size) {m : Nat} (h1 : a ≤ m) (h2 : m < b) (hp : PermIn a b d d') (hl : ∀ i, a ≤ i → i < m → d'[i]! < d'[m]!) (hr : ∀ i, m < i → i < b → d'[m]! ≤ d'[i]!) (hq : PermIn a m d' d'') (hsrt : SortedIn ltN a m d'') : Pq a0 b0 d0 (m + 1) b d'' := by
  have k0 := h.perm_ hs hp
  have hsz := h.size
  have hb := h.hb
  have hsz' := k0.size
  have k := k0.perm_ hs (permIn_mono _ _ _ _ a b (Nat.le_refl _) (by omega) (by omega) hq)
  have hm : d''[m]! = d'[m]! := hq.2.1 m (.inr (Nat.le_refl _))
  have hr' : ∀ i, m < i → i < b → d''[m]! ≤ d''[i]! := fun i q1 q2 => by
    rw [hm, hq.2.1 i (.inr (by omega))]
    exact hr i q1 q2
  have hl' : ∀ i, a ≤ i → i < m → d''[i]! < d''[m]! := by
    rw [hm]
    exact permIn_all d' d'' a m (fun x => x < d'[m]!) (by omega) hq hl
  refine ⟨by have := h.ha; omega, by omega, h.hb, k.perm, .inr fun i q1 q2 => ?_, fun i j q1 q2 q3 q4 => ?_⟩
  · rw [ltN_false, show m + 1 - 1 = m by omega]
    exact hr' i (by omega) q2
  · by_cases hij : i < a ∨ b ≤ j
    · exact k.done i j q1 q2 q3 hij
    · have hi : i ≤ m := by omega
      rcases Nat.lt_or_ge i m with hi | hi
      · rcases Nat.lt_or_ge j m with hj | hj
        · have := hsrt i j (by omega) q2 hj
          rwa [ltN_false] at this
        · have a1 := hl' i (by omega) hi
          rcases Nat.lt_or_ge m j with hj | hj
          · have := hr' j hj (by omega)
            omega
          · obtain rfl : j = m := by omega
            omega
      · obtain rfl : i = m := by omega
        exact hr' j q2 (by omega)
/-- The right part is sorted, the left one is left. -/
theorem Pq.right (h : Pq a0 b0 d0 a b d) (hs : b0 ≤ d0.size) {m : Nat} (h1 : a ≤ m) (h2 : m < b) (hp : PermIn a b d d') (hl : ∀ i, a ≤ i → i < m → d'[i]! < d'[m]!) (hr : ∀ i, m < i → i < b → d'[m]! ≤ d'[i]!) (hq : PermIn (m + 1) b d' d'') (hsrt : SortedIn ltN (m + 1) b d'') : Pq a0 b0 d0 a m d'' := by
  have k0 := h.perm_ hs hp
  have hsz := h.size
  have hb := h.hb
  have hsz' := k0.size
  have k := k0.perm_ hs (permIn_mono _ _ _ _ a b (by omega) (Nat.le_refl _) (by omega) hq)
  have hm : d''[m]! = d'[m]! := hq.2.1 m (.inl (by omega))
  have hl' : ∀ i, a ≤ i → i < m → d''[i]! < d''[m]! := fun i q1 q2 => by
    rw [hm, hq.2.1 i (.inl (by omega))]
    exact hl i q1 q2
  have hr' : ∀ i, m < i → i < b → d''[m]! ≤ d''[i]! := fun i q1 q2 => by
    rw [hm]
    exact permIn_all d' d'' (m + 1) b (fun x => d'[m]! ≤ x) (by omega) hq (fun t t1 t2 => hr t (by omega) t2) i (by omega) q2
  refine ⟨h.ha, h1, by omega, k.perm, ?_, fun i j q1 q2 q3 q4 => ?_⟩
  · rcases k.below with e | e
    · exact .inl e
    · exact .inr fun i q1 q2 => e i q1 (by omega)
  · by_cases hij : i < a ∨ b ≤ j
    · exact k.done i j q1 q2 q3 hij
    · have hj : m ≤ j := by omega
      rcases Nat.lt_or_ge m i with hi | hi
      · have := hsrt i j (by omega) q2 (by omega)
        rwa [ltN_false] at this
      · rcases Nat.lt_or_ge i m with hi' | hi'
        · have a1 := hl' i (by omega) hi'
          rcases Nat.lt_or_ge m j with hj' | hj'
          · have := hr' j hj' (by omega)
            omega
          · obtain rfl : j = m := by omega
            omega
        · obtain rfl : i = m := by omega
          exact hr' j q2 (by omega)
/-- What the calls of the left part and of the right one ask. -/
theorem Pq.belowL (h : Pq a0 b0 d0 a b d) (hs : b0 ≤ d0.size) {m : Nat} (h2 : m < b) (hp : PermIn a b d d') : Below ltN a m d' := by
  rcases (h.perm_ hs hp).below with e | e
  · exact .inl e
  · exact .inr fun i q1 q2 => e i q1 (by omega)
theorem belowR {m : Nat} (hr : ∀ i, m < i → i < b → d'[m]! ≤ d'[i]!) : Below ltN (m + 1) b d' :=
  .inr fun i q1 q2 => by rw [ltN_false, show m + 1 - 1 = m by omega]; exact hr i (by omega) q2
/-- What lies ahead isn't less than the pivot: the pivot is the least one. -/
theorem Pq.least (h : Pq a0 b0 d0 a b d) {p : Nat} (ha : 0 < a) (hle : d[p]! ≤ d[a - 1]!) : ∀ i, a ≤ i → i < b → d[p]! ≤ d[i]! := fun i q1 q2 => by
  rcases h.below with e | e
  · omega
  · have := e i q1 q2
    rw [ltN_false] at this
    omega
end
/-- One sorted row of these numbers. -/
theorem sorted_one {d d' : Array Nat} (hp : PermIn 0 d.size d d') (hs : SortedIn ltN 0 d.size d') : d'.toList = d.toList.mergeSort (fun x y => decide (x ≤ y)) := by
  have := sorted_unique_holds swoN (fun x y h k => by rw [ltN_false] at h k; omega) d d' hp hs
  rw [this]
  congr 1
  funext x y
  unfold ltN
  by_cases h : x ≤ y
  · rw [decide_eq_true h, decide_eq_false (by omega)]
    rfl
  · rw [decide_eq_false h, decide_eq_true (by omega)]
    rfl
end Go.Proofs.YthkbmpocfpbkoaaDoor

namespace Go.Proofs.YthkbmpocfpbkoaaDoor
open Go.RowKit Go.Sort

def enU (x : Nat) : Value := .int .u64 (x : Int)
def cel (d : Array Nat) (sp : Array Value) : Array Value := d.map enU ++ sp
theorem cel_get (d : Array Nat) (sp : Array Value) {i : Nat} (hi : i < d.size) : (cel d sp)[i]? = some (.int .u64 ((d[i]! : Nat) : Int)) := by
  unfold cel
  rw [Array.getElem?_append_left (by simpa using hi), Array.getElem?_map, Array.getElem?_eq_getElem hi, getElem!_pos d i hi]
  rfl
theorem cel_set (d : Array Nat) (sp : Array Value) {i : Nat} (x : Nat) (hi : i < d.size) : (cel d sp).setIfInBounds i (.int .u64 (x : Int)) = cel (d.setIfInBounds i x) sp := by
  unfold cel
  rw [Array.setIfInBounds_append_left (by simpa using hi)]
  congr 1
  apply Array.ext_getElem?
  intro k
  rw [Array.getElem?_setIfInBounds, Array.getElem?_map, Array.getElem?_map, Array.getElem?_setIfInBounds, Array.size_map]
  by_cases e : i = k
  · rw [if_pos e, if_pos e, if_pos (by omega), if_pos (by omega)]
    rfl
  · rw [if_neg e, if_neg e]
/-- The row in block b holds d; all else that w has is as it was. -/
structure Sw (w : World) (b : Nat) (sp : Array Value) (d : Array Nat) (V : World) : Prop where
  at_ : At V b (cel d sp) 33
  fr : Fr (fun k => k = b) w V
section
variable {w V V' : World} {b : Nat} {sp : Array Value} {d d' : Array Nat}
theorem Sw.start (h : At V b (cel d sp) 33) : Sw V b sp d V := ⟨h, Fr.refl _ _⟩
theorem Sw.cell (h : Sw w b sp d V) {o : Nat} (ho : o = 0) {i : Nat} (hi : i < d.size) : V.cell? ⟨b, o + i, none⟩ = some (.int .u64 ((d[i]! : Nat) : Int)) := by
  rw [ho, Nat.zero_add, h.at_.cell, cel_get d sp hi]
theorem Sw.frozen (h : Sw w b sp d V) (i : Nat) : V.frozen? ⟨b, i, none⟩ = false := h.at_.frozen i
theorem Sw.drewN (h : Sw w b sp d V) (q : Nat) : Sw w b sp d (V.drewN q) := ⟨h.at_, h.fr.drewN q⟩
theorem Sw.drew (h : Sw w b sp d V) : Sw w b sp d V.drew := ⟨h.at_, h.fr.drew⟩
theorem Sw.alloc (h : Sw w b sp d V) (ob : Obj) : Sw w b sp d (V.alloc ob) := ⟨h.at_.alloc ob, h.fr.alloc ob⟩
theorem Sw.lt (h : Sw w b sp d V) : b < V.heap.size := h.at_.lt
/-- Two places exchanged. -/
theorem Sw.swap (h : Sw w b sp d V) {o : Nat} (ho : o = 0) {i j : Nat} (hi : i < d.size) (hj : j < d.size) :
    Sw w b sp (swp d i j) ((V.setCell ⟨b, o + i, none⟩ (.int .u64 ((d[j]! : Nat) : Int))).setCell ⟨b, o + j, none⟩ (.int .u64 ((d[i]! : Nat) : Int))) := by
  subst ho
  rw [Nat.zero_add, Nat.zero_add]
  refine ⟨?_, (h.fr.setCell (.inr rfl) _).setCell (.inr rfl) _⟩
  have h1 := h.at_.put i (.int .u64 ((d[j]! : Nat) : Int))
  rw [cel_set d sp _ hi] at h1
  have h2 := h1.put j (.int .u64 ((d[i]! : Nat) : Int))
  rw [cel_set _ sp _ (by simpa using hj)] at h2
  exact h2
/-- What a round reads and writes. -/
theorem Sw.pack {o i j : Nat} (ho : o = 0) (hi : i < d.size) (hj : j < d.size) (V : World) (h : Sw w b sp d V) :
    V.cell? ⟨b, o + i, none⟩ = some (.int .u64 ((d[i]! : Nat) : Int)) ∧ V.cell? ⟨b, o + j, none⟩ = some (.int .u64 ((d[j]! : Nat) : Int)) ∧ V.frozen? ⟨b, o + i, none⟩ = false ∧ V.frozen? ⟨b, o + j, none⟩ = false ∧
      Sw w b sp (swp d i j) (((V.setCell ⟨b, o + i, none⟩ (.int .u64 ((d[j]! : Nat) : Int))).setCell ⟨b, o + j, none⟩ (.int .u64 ((d[i]! : Nat) : Int))).drew) :=
  ⟨h.cell ho hi, h.cell ho hj, h.frozen _, h.frozen _, (h.swap ho hi hj).drew⟩
/-- A call's row behind what was ahead of it. -/
theorem Sw.next (h : Sw w b sp d V) (k : Sw V b sp d' V') : Sw w b sp d' V' := ⟨k.at_, h.fr.trans k.fr⟩
/-- A cell of a block of the call's own. -/
theorem Sw.far (h : Sw w b sp d V) {p : Addr} (hp : w.heap.size ≤ p.block) (hb : p.block ≠ b) (u : Value) : Sw w b sp d (V.setCell p u) :=
  ⟨h.at_.far (fun e => hb e.symm) u, h.fr.setCell (.inl hp) u⟩
theorem Sw.of_below (h : Sw w b sp d V) (hb : Below V.heap.size V V') : Sw w b sp d V' := ⟨h.at_.new_ hb, h.fr.trans (Fr.of_new hb)⟩
end
end Go.Proofs.YthkbmpocfpbkoaaDoor

namespace Go.Proofs.YthkbmpocfpbkoaaDoor

/-- Each that is as the one ahead of it goes away. -/
def onceS (l : List Nat) : List Nat := l.foldl (fun o x => if o.getLast? = some x then o else o ++ [x]) []
theorem onceS_step (l : List Nat) (j : Nat) (hj : j < l.length) : onceS (l.take (j + 1)) = if (onceS (l.take j)).getLast? = some l[j] then onceS (l.take j) else onceS (l.take j) ++ [l[j]] := by
  unfold onceS
  rw [List.take_succ_eq_append_getElem hj, List.foldl_append]
  rfl
theorem onceS_last (l : List Nat) (j : Nat) (hj : j < l.length) : (onceS (l.take (j + 1))).getLast? = some l[j] := by
  rw [onceS_step l j hj]
  split
  · assumption
  · simp
theorem onceS_next (l : List Nat) (j : Nat) (h0 : 0 < j) (hj : j < l.length) : onceS (l.take (j + 1)) = if l[j] = l[j - 1] then onceS (l.take j) else onceS (l.take j) ++ [l[j]] := by
  rw [onceS_step l j hj]
  have := onceS_last l (j - 1) (by omega)
  rw [show j - 1 + 1 = j by omega] at this
  rw [this]
  by_cases e : l[j] = l[j - 1]
  · rw [if_pos e, if_pos (by rw [e])]
  · rw [if_neg e, if_neg (by intro h; exact e (Option.some.inj h).symm)]
/-- Sorted numbers: what is left increases, and has the same numbers. -/
theorem onceS_rise (l : List Nat) (hs : l.Pairwise (· ≤ ·)) : (onceS l).Pairwise (· < ·) ∧ ∀ x, x ∈ onceS l ↔ x ∈ l := by
  have key : ∀ j, j ≤ l.length → (onceS (l.take j)).Pairwise (· < ·) ∧ ∀ x, x ∈ onceS (l.take j) ↔ x ∈ l.take j := by
    intro j
    induction j with
    | zero => intro _; simp [onceS]
    | succ j ih =>
      intro h
      obtain ⟨h1, h2⟩ := ih (by omega)
      have hj : j < l.length := by omega
      have hle : ∀ x ∈ l.take j, x ≤ l[j] := by
        intro x hx
        obtain ⟨i, hi, rfl⟩ := List.getElem_of_mem hx
        rw [List.length_take] at hi
        rw [List.getElem_take]
        exact (List.pairwise_iff_getElem.1 hs) i j (by omega) hj (by omega)
      rw [onceS_step l j hj, List.take_succ_eq_append_getElem hj]
      split
      · rename_i e
        have hm : l[j] ∈ l.take j := (h2 _).1 (List.mem_of_getLast? e)
        refine ⟨h1, fun x => ?_⟩
        rw [h2, List.mem_append, List.mem_singleton]
        exact ⟨.inl, fun k => k.elim id (fun k => by rw [k]; exact hm)⟩
      · rename_i e
        refine ⟨?_, fun x => by rw [List.mem_append, List.mem_append, h2]⟩
        rw [List.pairwise_append]
        refine ⟨h1, List.pairwise_singleton _ _, fun x hx y hy => ?_⟩
        obtain rfl := List.mem_singleton.1 hy
        have hx2 := hle x ((h2 x).1 hx)
        rcases Nat.lt_or_ge x l[j] with k | k
        · exact k
        · exfalso
          obtain rfl : x = l[j] := by omega
          apply e
          rw [List.getLast?_eq_some_iff]
          obtain ⟨s, t, hst⟩ := List.append_of_mem hx
          cases t with
          | nil => exact ⟨s, hst⟩
          | cons z t =>
            exfalso
            rw [hst] at h1
            have h3 := (List.pairwise_append.1 h1).2.1
            have h4 := (List.pairwise_cons.1 h3).1 z (by simp)
            have hz : z ∈ l.take j := (h2 z).1 (by rw [hst]; simp)
            have := hle z hz
            omega
  have := key l.length (Nat.le_refl _)
  rwa [List.take_length] at this
theorem insS_up (x : Nat) (l : List Nat) (h : l.Pairwise (· < ·)) : (insS x l).Pairwise (· < ·) ∧ ∀ y, y ∈ insS x l ↔ y = x ∨ y ∈ l := by
  unfold insS
  split
  · rename_i e
    exact ⟨h, fun y => ⟨.inr, fun k => k.elim (fun k => by rw [k]; exact e) id⟩⟩
  · rename_i e
    refine ⟨?_, fun y => ?_⟩
    · rw [List.pairwise_append, List.pairwise_cons]
      refine ⟨h.filter _, ⟨fun y hy => by simpa using (List.mem_filter.1 hy).2, h.filter _⟩, fun y hy z hz => ?_⟩
      have h1 : y < x := by simpa using (List.mem_filter.1 hy).2
      rcases List.mem_cons.1 hz with rfl | hz
      · exact h1
      · have h2 : x < z := by simpa using (List.mem_filter.1 hz).2
        omega
    · rw [List.mem_append, List.mem_cons, List.mem_filter, List.mem_filter]
      simp only [decide_eq_true_eq]
      constructor
      · rintro (⟨k, -⟩ | rfl | ⟨k, -⟩)
        · exact .inr k
        · exact .inl rfl
        · exact .inr k
      · rintro (rfl | k)
        · exact .inr (.inl rfl)
        · rcases Nat.lt_trichotomy y x with q | q | q
          · exact .inl ⟨k, q⟩
          · exact .inr (.inl q)
          · exact .inr (.inr ⟨k, q⟩)
theorem sortS_up (l : List Nat) : (sortS l).Pairwise (· < ·) ∧ ∀ x, x ∈ sortS l ↔ x ∈ l := by
  have key : ∀ j, j ≤ l.length → (sortS (l.take j)).Pairwise (· < ·) ∧ ∀ x, x ∈ sortS (l.take j) ↔ x ∈ l.take j := by
    intro j
    induction j with
    | zero => intro _; simp [sortS]
    | succ j ih =>
      intro h
      obtain ⟨h1, h2⟩ := ih (by omega)
      rw [sortS_next l j (by omega), List.take_succ_eq_append_getElem (by omega)]
      obtain ⟨h3, h4⟩ := insS_up l[j] _ h1
      refine ⟨h3, fun x => ?_⟩
      rw [h4, h2, List.mem_append, List.mem_singleton]
      exact ⟨fun k => k.elim .inr .inl, fun k => k.elim .inr .inl⟩
  have := key l.length (Nat.le_refl _)
  rwa [List.take_length] at this
theorem rise_one {l m : List Nat} (hl : l.Pairwise (· < ·)) (hm : m.Pairwise (· < ·)) (h : ∀ x, x ∈ l ↔ x ∈ m) : l = m := by
  induction l generalizing m with
  | nil =>
    cases m with
    | nil => rfl
    | cons y m => exact absurd ((h y).2 (by simp)) (by simp)
  | cons x l ih =>
    cases m with
    | nil => exact absurd ((h x).1 (by simp)) (by simp)
    | cons y m =>
      have hl' := List.pairwise_cons.1 hl
      have hm' := List.pairwise_cons.1 hm
      have e : x = y := by
        rcases List.mem_cons.1 ((h x).1 (by simp)) with e | e
        · exact e
        · rcases List.mem_cons.1 ((h y).2 (by simp)) with k | k
          · exact k.symm
          · have := hm'.1 x e
            have := hl'.1 y k
            omega
      subst e
      rw [ih hl'.2 hm'.2 fun z => ?_]
      have hz := h z
      rw [List.mem_cons, List.mem_cons] at hz
      constructor
      · intro k
        rcases hz.1 (.inr k) with rfl | q
        · exact absurd (hl'.1 z k) (by omega)
        · exact q
      · intro k
        rcases hz.2 (.inr k) with rfl | q
        · exact absurd (hm'.1 z k) (by omega)
        · exact q
/-- Sorted, each once: as the document has it. -/
theorem sort_once {l s : List Nat} (hp : s.Perm l) (hs : s.Pairwise (· ≤ ·)) : onceS s = sortS l := by
  obtain ⟨h1, h2⟩ := onceS_rise s hs
  obtain ⟨h3, h4⟩ := sortS_up l
  exact rise_one h1 h3 fun x => by rw [h2, h4, hp.mem_iff]
end Go.Proofs.YthkbmpocfpbkoaaDoor

namespace Go.Proofs.YthkbmpocfpbkoaaDoor

theorem arr_get (d : Array Nat) {j : Nat} (h : j < d.size) : d.toList[j]'(by simpa using h) = d[j]! := by simp [getElem!_pos d j h]
section
variable {d dk : Array Nat} {k q : Nat}
/-- So far none has gone away. -/
def Allk (d : Array Nat) (k : Nat) : Prop := onceS (d.toList.take k) = d.toList.take k
theorem once_next (h0 : 0 < q) (hq : q < d.size) : onceS (d.toList.take (q + 1)) = if d[q]! = d[q - 1]! then onceS (d.toList.take q) else onceS (d.toList.take q) ++ [d[q]!] := by
  rw [onceS_next d.toList q h0 (by simpa using hq), arr_get d hq, arr_get d (show q - 1 < d.size by omega)]
theorem atake_next (hq : q < d.size) : d.toList.take (q + 1) = d.toList.take q ++ [d[q]!] := by
  rw [List.take_succ_eq_append_getElem (by simpa using hq), arr_get d hq]
theorem Allk.start (h : 0 < d.size) : Allk d 1 := by
  unfold Allk
  rw [atake_next h, List.take_zero]
  rfl
theorem Allk.next (h : Allk d k) (h0 : 0 < k) (hk : k < d.size) (hne : d[k]! ≠ d[k - 1]!) : Allk d (k + 1) := by
  unfold Allk at h ⊢
  rw [once_next h0 hk, if_neg hne, atake_next hk, h]
theorem Allk.end_ (h : Allk d d.size) : onceS d.toList = d.toList := by
  unfold Allk at h
  rwa [show d.toList.take d.size = d.toList by rw [List.take_of_length_le (by simp)]] at h
/-- Where the rounds are: of the first q numbers k are left, and lie ahead. -/
structure Cmp (d : Array Nat) (k q : Nat) (dk : Array Nat) : Prop where
  size : dk.size = d.size
  once : dk.toList.take k = onceS (d.toList.take q)
  len : (onceS (d.toList.take q)).length = k
  kq : k + 1 ≤ q
  qn : q ≤ d.size
  rest : ∀ t, q ≤ t + 1 → t < d.size → dk[t]! = d[t]!
theorem Cmp.start (h : Allk d k) (h0 : 0 < k) (hk : k < d.size) (he : d[k]! = d[k - 1]!) : Cmp d k (k + 1) d := by
  have e : onceS (d.toList.take (k + 1)) = d.toList.take k := by rw [once_next h0 hk, if_pos he]; exact h
  exact ⟨rfl, e.symm, by rw [e, List.length_take]; simp; omega, Nat.le_refl _, hk, fun _ _ _ => rfl⟩
theorem Cmp.same (h : Cmp d k q dk) (hq : q < d.size) (he : d[q]! = d[q - 1]!) : Cmp d k (q + 1) dk := by
  have e : onceS (d.toList.take (q + 1)) = onceS (d.toList.take q) := by rw [once_next (by have := h.kq; omega) hq, if_pos he]
  exact ⟨h.size, by rw [e]; exact h.once, by rw [e]; exact h.len, by have := h.kq; omega, hq, fun t h1 h2 => h.rest t (by omega) h2⟩
theorem Cmp.more (h : Cmp d k q dk) (hq : q < d.size) (he : d[q]! ≠ d[q - 1]!) : Cmp d (k + 1) (q + 1) (dk.setIfInBounds k d[q]!) := by
  have hk := h.kq
  have hs := h.size
  have e : onceS (d.toList.take (q + 1)) = onceS (d.toList.take q) ++ [d[q]!] := by rw [once_next (by omega) hq, if_neg he]
  refine ⟨by simpa using hs, ?_, by rw [e, List.length_append, h.len]; rfl, by omega, hq, fun t h1 h2 => ?_⟩
  · rw [e, ← h.once, Array.toList_setIfInBounds, List.take_succ_eq_append_getElem (by rw [List.length_set]; simp; omega), List.getElem_set_self]
    congr 1
    rw [List.take_set_of_le (Nat.le_refl _)]
  · rw [Go.Sort.getElem!_set_other dk k t _ (by omega)]
    exact h.rest t (by omega) h2
end
end Go.Proofs.YthkbmpocfpbkoaaDoor
