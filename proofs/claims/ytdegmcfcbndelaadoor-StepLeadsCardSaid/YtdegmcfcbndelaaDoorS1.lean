/-
  What Go's sort comes to, in plain words: a part of a row is sorted once its own rounds are done. Nothing here speaks of the program.
  A row of numbers that Go's sort works on: what it holds, what an exchange makes of it.
  Indices in order, each once: what is left of sorted ones where each that is as the one ahead of it goes away. Nothing here walks.
  Numbers of which each that is as the one ahead of it goes away, where they lie: what holds between the rounds. Nothing here walks.
  Layer 10, the program's side: a row sorted by insertion.
  Layer 10, the program's side: a part of a row reversed.
  Layer 10, the program's side: a row sorted as a heap.
-/
import Derived.Sort.LotA
import Derived.Sort.LotB
import Derived.Sort.LotC
import Derived.Test.YtdegmcfcbndelaaDoorK6
import Derived.Test.YtdegmcfcbndelaaDoorK1
import Derived.Sort.Row
import Derived.BigQuiet
import Derived.BigRegion
namespace Go.Proofs.YtdegmcfcbndelaaDoor
open Go.Sort

def ltN (x y : Nat) : Bool := decide (x < y)
theorem ltN_true {x y : Nat} : ltN x y = true ↔ x < y := by simp [ltN]
theorem ltN_false {x y : Nat} : ltN x y = false ↔ y ≤ x := by simp [ltN]
theorem swoN : SWO ltN where
  irrefl x := by simp [ltN]
  trans x y z h k := by rw [ltN_true] at *; omega
  ntrans x y z h k := by rw [ltN_false] at *; omega

/-- Where the rounds of the sort are: of the places from a0 to b0 those from a to b are left. -/
structure Pq (a0 b0 : Nat) (d0 : Array Nat) (a b : Nat) (d : Array Nat) : Prop where
  ha : a0 ≤ a
  hab : a ≤ b
  hb : b ≤ b0
  perm : PermIn a0 b0 d0 d
  below : Below ltN a b d
  done : ∀ i j, a0 ≤ i → i < j → j < b0 → (i < a ∨ b ≤ j) → d[i]! ≤ d[j]!
section
variable {a0 b0 a b : Nat} {d0 d d' d'' : Array Nat}
theorem Pq.size (h : Pq a0 b0 d0 a b d) : d.size = d0.size := h.perm.1
theorem Pq.start (hab : a0 ≤ b0) (hb : Below ltN a0 b0 d0) : Pq a0 b0 d0 a0 b0 d0 :=
  ⟨Nat.le_refl _, hab, Nat.le_refl _, permIn_refl _ _ _, hb, fun i j h1 h2 h3 h4 => by omega⟩
/-- What is left is permuted. -/
theorem Pq.perm_ (h : Pq a0 b0 d0 a b d) (hs : b0 ≤ d0.size) (hp : PermIn a b d d') : Pq a0 b0 d0 a b d' := by
  have hsz := h.size
  have hb := h.hb
  refine ⟨h.ha, h.hab, h.hb, permIn_trans _ _ _ _ _ h.perm (permIn_mono _ _ _ _ _ _ h.ha h.hb (by omega) hp), h.below.permA permIn_all (by omega) hp, fun i j h1 h2 h3 h4 => ?_⟩
  by_cases hi : a ≤ i ∧ i < b
  · have hj : b ≤ j := by omega
    rw [hp.2.1 j (.inr hj)]
    exact permIn_all d d' a b (fun x => x ≤ d[j]!) (by omega) hp (fun k hk1 hk2 => h.done k j (by have := h.ha; omega) (by omega) h3 (.inr hj)) i hi.1 hi.2
  · rw [hp.2.1 i (by omega)]
    by_cases hj : a ≤ j ∧ j < b
    · exact permIn_all d d' a b (fun x => d[i]! ≤ x) (by omega) hp (fun k hk1 hk2 => h.done i k h1 (by omega) (by omega) (by omega)) j hj.1 hj.2
    · rw [hp.2.1 j (by omega)]
      exact h.done i j h1 h2 h3 h4
/-- What is left is sorted: all is. -/
theorem Pq.end_ (h : Pq a0 b0 d0 a b d) (hs : b0 ≤ d0.size) (hp : PermIn a b d d') (hd : SortedIn ltN a b d') : PermIn a0 b0 d0 d' ∧ SortedIn ltN a0 b0 d' := by
  have k := h.perm_ hs hp
  refine ⟨k.perm, fun i j h1 h2 h3 => ?_⟩
  rw [ltN_false]
  by_cases hij : i < a ∨ b ≤ j
  · exact k.done i j h1 h2 h3 hij
  · have := hd i j (by omega) h2 (by omega)
    rwa [ltN_false] at this
/-- The pivot was as great as what lies ahead: what is as great goes away. -/
theorem Pq.equal (h : Pq a0 b0 d0 a b d) (hs : b0 ≤ d0.size) {m p : Nat} (hp : PermIn a b d d') (h1 : a < m) (h2 : m ≤ b) (hle : ∀ i, a ≤ i → i < m → d'[i]! ≤ d[p]!) (hgt : ∀ i, m ≤ i → i < b → d[p]! < d'[i]!) (hmin : ∀ i, a ≤ i → i < b → d[p]! ≤ d[i]!) : Pq a0 b0 d0 m b d' := by
  have k := h.perm_ hs hp
  have hsz := h.size
  have hb := h.hb
  have hmin' := permIn_all d d' a b (fun x => d[p]! ≤ x) (by omega) hp hmin
  refine ⟨by have := h.ha; omega, h2, h.hb, k.perm, .inr fun i q1 q2 => ?_, fun i j q1 q2 q3 q4 => ?_⟩
  · rw [ltN_false]
    have := hle (m - 1) (by omega) (by omega)
    have := hgt i q1 q2
    omega
  · by_cases hij : i < a ∨ b ≤ j
    · exact k.done i j q1 q2 q3 hij
    · have hi : i < m := by omega
      have := hle i (by omega) hi
      have := hmin' j (by omega) (by omega)
      omega
/-- The left part is sorted, the right one is left. -/
theorem Pq.left (h : Pq a0 b0 d0 a b d) (hs : b0 ≤ d0.size) {m : Nat} (h1 : a ≤ m) (h2 : m < b) (hp : PermIn a b d d') (hl : ∀ i, a ≤ i → i < m → d'[i]! < d'[m]!) (hr : ∀ i, m < i → i < b → d'[m]! ≤ d'[i]!) (hq : PermIn a m d' d'') (hsrt : SortedIn ltN a m d'') : Pq a0 b0 d0 (m + 1) b d'' := by
  have k0 := h.perm_ hs hp
  have hsz := h.size
  have hb := h.hb
  have hsz' := k0.size
  have k := k0.perm_ hs (permIn_mono _ _ _ _ a b (Nat.le_refl _) (by omega) (by omega) hq)
  have hm : d''[m]! = d'[m]! := hq.2.1 m (.inr (Nat.le_refl _))
  have hr' : ∀ i, m < i → i < b → d''[m]! ≤ d''[i]! := fun i q1 q2 => by
    rw [hm, hq.2.1 i (.inr (by omega))]
    exact hr i q1 q2
  have hl' : ∀ i, a ≤ i → i < m → d''[i]! < d''[m]! := by
    rw [hm]
    exact permIn_all d' d'' a m (fun x => x < d'[m]!) (by omega) hq hl
  refine ⟨by have := h.ha; omega, by omega, h.hb, k.perm, .inr fun i q1 q2 => ?_, fun i j q1 q2 q3 q4 => ?_⟩
  · rw [ltN_false, show m + 1 - 1 = m by omega]
    exact hr' i (by omega) q2
  · by_cases hij : i < a ∨ b ≤ j
    · exact k.done i j q1 q2 q3 hij
    · have hi : i ≤ m := by omega
      rcases Nat.lt_or_ge i m with hi | hi
      · rcases Nat.lt_or_ge j m with hj | hj
        · have := hsrt i j (by omega) q2 hj
          rwa [ltN_false] at this
        · have a1 := hl' i (by omega) hi
          rcases Nat.lt_or_ge m j with hj | hj
          · have := hr' j hj (by omega)
            omega
          · obtain rfl : j = m := by omega
            omega
      · obtain rfl : i = m := by omega
        exact hr' j q2 (by omega)
/-- The right part is sorted, the left one is left. -/
theorem Pq.right (h : Pq a0 b0 d0 a b d) (hs : b0 ≤ d0.size) {m : Nat} (h1 : a ≤ m) (h2 : m < b) (hp : PermIn a b d d') (hl : ∀ i, a ≤ i → i < m → d'[i]! < d'[m]!) (hr : ∀ i, m < i → i < b → d'[m]! ≤ d'[i]!) (hq : PermIn (m + 1) b d' d'') (hsrt : SortedIn ltN (m + 1) b d'') : Pq a0 b0 d0 a m d'' := by
  have k0 := h.perm_ hs hp
  have hsz := h.size
  have hb := h.hb
  have hsz' := k0.size
  have k := k0.perm_ hs (permIn_mono _ _ _ _ a b (by omega) (Nat.le_refl _) (by omega) hq)
  have hm : d''[m]! = d'[m]! := hq.2.1 m (.inl (by omega))
  have hl' : ∀ i, a ≤ i → i < m → d''[i]! < d''[m]! := fun i q1 q2 => by
    rw [hm, hq.2.1 i (.inl (by omega))]
    exact hl i q1 q2
  have hr' : ∀ i, m < i → i < b → d''[m]! ≤ d''[i]! := fun i q1 q2 => by
    rw [hm]
    exact permIn_all d' d'' (m + 1) b (fun x => d'[m]! ≤ x) (by omega) hq (fun t t1 t2 => hr t (by omega) t2) i (by omega) q2
  refine ⟨h.ha, h1, by omega, k.perm, ?_, fun i j q1 q2 q3 q4 => ?_⟩
  · rcases k.below with e | e
    · exact .inl e
    · exact .inr fun i q1 q2 => e i q1 (by omega)
  · by_cases hij : i < a ∨ b ≤ j
    · exact k.done i j q1 q2 q3 hij
    · have hj : m ≤ j := by omega
      rcases Nat.lt_or_ge m i with hi | hi
      · have := hsrt i j (by omega) q2 (by omega)
        rwa [ltN_false] at this
      · rcases Nat.lt_or_ge i m with hi' | hi'
        · have a1 := hl' i (by omega) hi'
          rcases Nat.lt_or_ge m j with hj' | hj'
          · have := hr' j hj' (by omega)
            omega
          · obtain rfl : j = m := by omega
            omega
        · obtain rfl : i = m := by omega
          exact hr' j q2 (by omega)
/-- What the calls of the left part and of the right one ask. -/
theorem Pq.belowL (h : Pq a0 b0 d0 a b d) (hs : b0 ≤ d0.size) {m : Nat} (h2 : m < b) (hp : PermIn a b d d') : Below ltN a m d' := by
  rcases (h.perm_ hs hp).below with e | e
  · exact .inl e
  · exact .inr fun i q1 q2 => e i q1 (by omega)
theorem belowR {m : Nat} (hr : ∀ i, m < i → i < b → d'[m]! ≤ d'[i]!) : Below ltN (m + 1) b d' :=
  .inr fun i q1 q2 => by rw [ltN_false, show m + 1 - 1 = m by omega]; exact hr i (by omega) q2
/-- What lies ahead isn't less than the pivot: the pivot is the least one. -/
theorem Pq.least (h : Pq a0 b0 d0 a b d) {p : Nat} (ha : 0 < a) (hle : d[p]! ≤ d[a - 1]!) : ∀ i, a ≤ i → i < b → d[p]! ≤ d[i]! := fun i q1 q2 => by
  rcases h.below with e | e
  · omega
  · have := e i q1 q2
    rw [ltN_false] at this
    omega
end
/-- One sorted row of these numbers. -/
theorem sorted_one {d d' : Array Nat} (hp : PermIn 0 d.size d d') (hs : SortedIn ltN 0 d.size d') : d'.toList = d.toList.mergeSort (fun x y => decide (x ≤ y)) := by
  have := sorted_unique_holds swoN (fun x y h k => by rw [ltN_false] at h k; omega) d d' hp hs
  rw [this]
  congr 1
  funext x y
  unfold ltN
  by_cases h : x ≤ y
  · rw [decide_eq_true h, decide_eq_false (by omega)]
    rfl
  · rw [decide_eq_false h, decide_eq_true (by omega)]
    rfl
end Go.Proofs.YtdegmcfcbndelaaDoor

namespace Go.Proofs.YtdegmcfcbndelaaDoor
open Go.RowKit Go.Sort

def enU (x : Nat) : Value := .int .u64 (x : Int)
def cel (d : Array Nat) (sp : Array Value) : Array Value := d.map enU ++ sp
theorem cel_get (d : Array Nat) (sp : Array Value) {i : Nat} (hi : i < d.size) : (cel d sp)[i]? = some (.int .u64 ((d[i]! : Nat) : Int)) := by
  unfold cel
  rw [Array.getElem?_append_left (by simpa using hi), Array.getElem?_map, Array.getElem?_eq_getElem hi, getElem!_pos d i hi]
  rfl
theorem cel_set (d : Array Nat) (sp : Array Value) {i : Nat} (x : Nat) (hi : i < d.size) : (cel d sp).setIfInBounds i (.int .u64 (x : Int)) = cel (d.setIfInBounds i x) sp := by
  unfold cel
  rw [Array.setIfInBounds_append_left (by simpa using hi)]
  congr 1
  apply Array.ext_getElem?
  intro k
  rw [Array.getElem?_setIfInBounds, Array.getElem?_map, Array.getElem?_map, Array.getElem?_setIfInBounds, Array.size_map]
  by_cases e : i = k
  · rw [if_pos e, if_pos e, if_pos (by omega), if_pos (by omega)]
    rfl
  · rw [if_neg e, if_neg e]
/-- The row in block b holds d; all else that w has is as it was. -/
structure Sw (w : World) (b : Nat) (sp : Array Value) (d : Array Nat) (V : World) : Prop where
  at_ : At V b (cel d sp) 23
  fr : Fr (fun k => k = b) w V
section
variable {w V V' : World} {b : Nat} {sp : Array Value} {d d' : Array Nat}
theorem Sw.start (h : At V b (cel d sp) 23) : Sw V b sp d V := ⟨h, Fr.refl _ _⟩
theorem Sw.cell (h : Sw w b sp d V) {o : Nat} (ho : o = 0) {i : Nat} (hi : i < d.size) : V.cell? ⟨b, o + i, none⟩ = some (.int .u64 ((d[i]! : Nat) : Int)) := by
  rw [ho, Nat.zero_add, h.at_.cell, cel_get d sp hi]
theorem Sw.frozen (h : Sw w b sp d V) (i : Nat) : V.frozen? ⟨b, i, none⟩ = false := h.at_.frozen i
theorem Sw.drewN (h : Sw w b sp d V) (q : Nat) : Sw w b sp d (V.drewN q) := ⟨h.at_, h.fr.drewN q⟩
theorem Sw.drew (h : Sw w b sp d V) : Sw w b sp d V.drew := ⟨h.at_, h.fr.drew⟩
theorem Sw.alloc (h : Sw w b sp d V) (ob : Obj) : Sw w b sp d (V.alloc ob) := ⟨h.at_.alloc ob, h.fr.alloc ob⟩
theorem Sw.lt (h : Sw w b sp d V) : b < V.heap.size := h.at_.lt
/-- Two places exchanged. -/
theorem Sw.swap (h : Sw w b sp d V) {o : Nat} (ho : o = 0) {i j : Nat} (hi : i < d.size) (hj : j < d.size) :
    Sw w b sp (swp d i j) ((V.setCell ⟨b, o + i, none⟩ (.int .u64 ((d[j]! : Nat) : Int))).setCell ⟨b, o + j, none⟩ (.int .u64 ((d[i]! : Nat) : Int))) := by
  subst ho
  rw [Nat.zero_add, Nat.zero_add]
  refine ⟨?_, (h.fr.setCell (.inr rfl) _).setCell (.inr rfl) _⟩
  have h1 := h.at_.put i (.int .u64 ((d[j]! : Nat) : Int))
  rw [cel_set d sp _ hi] at h1
  have h2 := h1.put j (.int .u64 ((d[i]! : Nat) : Int))
  rw [cel_set _ sp _ (by simpa using hj)] at h2
  exact h2
/-- What a round reads and writes. -/
theorem Sw.pack {o i j : Nat} (ho : o = 0) (hi : i < d.size) (hj : j < d.size) (V : World) (h : Sw w b sp d V) :
    V.cell? ⟨b, o + i, none⟩ = some (.int .u64 ((d[i]! : Nat) : Int)) ∧ V.cell? ⟨b, o + j, none⟩ = some (.int .u64 ((d[j]! : Nat) : Int)) ∧ V.frozen? ⟨b, o + i, none⟩ = false ∧ V.frozen? ⟨b, o + j, none⟩ = false ∧
      Sw w b sp (swp d i j) (((V.setCell ⟨b, o + i, none⟩ (.int .u64 ((d[j]! : Nat) : Int))).setCell ⟨b, o + j, none⟩ (.int .u64 ((d[i]! : Nat) : Int))).drew) :=
  ⟨h.cell ho hi, h.cell ho hj, h.frozen _, h.frozen _, (h.swap ho hi hj).drew⟩
/-- A call's row behind what was ahead of it. -/
theorem Sw.next (h : Sw w b sp d V) (k : Sw V b sp d' V') : Sw w b sp d' V' := ⟨k.at_, h.fr.trans k.fr⟩
/-- A cell of a block of the call's own. -/
theorem Sw.far (h : Sw w b sp d V) {p : Addr} (hp : w.heap.size ≤ p.block) (hb : p.block ≠ b) (u : Value) : Sw w b sp d (V.setCell p u) :=
  ⟨h.at_.far (fun e => hb e.symm) u, h.fr.setCell (.inl hp) u⟩
theorem Sw.of_below (h : Sw w b sp d V) (hb : Below V.heap.size V V') : Sw w b sp d V' := ⟨h.at_.new_ hb, h.fr.trans (Fr.of_new hb)⟩
end
end Go.Proofs.YtdegmcfcbndelaaDoor

namespace Go.Proofs.YtdegmcfcbndelaaDoor

/-- Each that is as the one ahead of it goes away. -/
def onceS (l : List Nat) : List Nat := l.foldl (fun o x => if o.getLast? = some x then o else o ++ [x]) []
theorem onceS_step (l : List Nat) (j : Nat) (hj : j < l.length) : onceS (l.take (j + 1)) = if (onceS (l.take j)).getLast? = some l[j] then onceS (l.take j) else onceS (l.take j) ++ [l[j]] := by
  unfold onceS
  rw [List.take_succ_eq_append_getElem hj, List.foldl_append]
  rfl
theorem onceS_last (l : List Nat) (j : Nat) (hj : j < l.length) : (onceS (l.take (j + 1))).getLast? = some l[j] := by
  rw [onceS_step l j hj]
  split
  · assumption
  · simp
theorem onceS_next (l : List Nat) (j : Nat) (h0 : 0 < j) (hj : j < l.length) : onceS (l.take (j + 1)) = if l[j] = l[j - 1] then onceS (l.take j) else onceS (l.take j) ++ [l[j]] := by
  rw [onceS_step l j hj]
  have := onceS_last l (j - 1) (by omega)
  rw [show j - 1 + 1 = j by omega] at this
  rw [this]
  by_cases e : l[j] = l[j - 1]
  · rw [if_pos e, if_pos (by rw [e])]
  · rw [if_neg e, if_neg (by intro h; exact e (Option.some.inj h).symm)]
/-- Sorted numbers: what is left increases, and has the same numbers. -/
theorem onceS_rise (l : List Nat) (hs : l.Pairwise (· ≤ ·)) : (onceS l).Pairwise (· < ·) ∧ ∀ x, x ∈ onceS l ↔ x ∈ l := by
  have key : ∀ j, j ≤ l.length → (onceS (l.take j)).Pairwise (· < ·) ∧ ∀ x, x ∈ onceS (l.take j) ↔ x ∈ l.take j := by
    intro j
    induction j with
    | zero => intro _; simp [onceS]
    | succ j ih =>
      intro h
      obtain ⟨h1, h2⟩ := ih (by omega)
      have hj : j < l.length := by omega
      have hle : ∀ x ∈ l.take j, x ≤ l[j] := by
        intro x hx
        obtain ⟨i, hi, rfl⟩ := List.getElem_of_mem hx
        rw [List.length_take] at hi
        rw [List.getElem_take]
        exact (List.pairwise_iff_getElem.1 hs) i j (by omega) hj (by omega)
      rw [onceS_step l j hj, List.take_succ_eq_append_getElem hj]
      split
      · rename_i e
        have hm : l[j] ∈ l.take j := (h2 _).1 (List.mem_of_getLast? e)
        refine ⟨h1, fun x => ?_⟩
        rw [h2, List.mem_append, List.mem_singleton]
        exact ⟨.inl, fun k => k.elim id (fun k => by rw [k]; exact hm)⟩
      · rename_i e
        refine ⟨?_, fun x => by rw [List.mem_append, List.mem_append, h2]⟩
        rw [List.pairwise_append]
        refine ⟨h1, List.pairwise_singleton _ _, fun x hx y hy => ?_⟩
        obtain rfl := List.mem_singleton.1 hy
        have hx2 := hle x ((h2 x).1 hx)
        rcases Nat.lt_or_ge x l[j] with k | k
        · exact k
        · exfalso
          obtain rfl : x = l[j] := by omega
          apply e
          rw [List.getLast?_eq_some_iff]
          obtain ⟨s, t, hst⟩ := List.append_of_mem hx
          cases t with
          | nil => exact ⟨s, hst⟩
          | cons z t =>
            exfalso
            rw [hst] at h1
            have h3 := (List.pairwise_append.1 h1).2.1
            have h4 := (List.pairwise_cons.1 h3).1 z (by simp)
            have hz : z ∈ l.take j := (h2 z).1 (by rw [hst]; simp)
            have := hle z hz
            omega
  have := key l.length (Nat.le_refl _)
  rwa [List.take_length] at this
theorem insS_up (x : Nat) (l : List Nat) (h : l.Pairwise (· < ·)) : (insS x l).Pairwise (· < ·) ∧ ∀ y, y ∈ insS x l ↔ y = x ∨ y ∈ l := by
  unfold insS
  split
  · rename_i e
    exact ⟨h, fun y => ⟨.inr, fun k => k.elim (fun k => by rw [k]; exact e) id⟩⟩
  · rename_i e
    refine ⟨?_, fun y => ?_⟩
    · rw [List.pairwise_append, List.pairwise_cons]
      refine ⟨h.filter _, ⟨fun y hy => by simpa using (List.mem_filter.1 hy).2, h.filter _⟩, fun y hy z hz => ?_⟩
      have h1 : y < x := by simpa using (List.mem_filter.1 hy).2
      rcases List.mem_cons.1 hz with rfl | hz
      · exact h1
      · have h2 : x < z := by simpa using (List.mem_filter.1 hz).2
        omega
    · rw [List.mem_append, List.mem_cons, List.mem_filter, List.mem_filter]
      simp only [decide_eq_true_eq]
      constructor
      · rintro (⟨k, -⟩ | rfl | ⟨k, -⟩)
        · exact .inr k
        · exact .inl rfl
        · exact .inr k
      · rintro (rfl | k)
        · exact .inr (.inl rfl)
        · rcases Nat.lt_trichotomy y x with q | q | q
          · exact .inl ⟨k, q⟩
          · exact .inr (.inl q)
          · exact .inr (.inr ⟨k, q⟩)
theorem sortS_up (l : List Nat) : (sortS l).Pairwise (· < ·) ∧ ∀ x, x ∈ sortS l ↔ x ∈ l := by
  have key : ∀ j, j ≤ l.length → (sortS (l.take j)).Pairwise (· < ·) ∧ ∀ x, x ∈ sortS (l.take j) ↔ x ∈ l.take j := by
    intro j
    induction j with
    | zero => intro _; simp [sortS]
    | succ j ih =>
      intro h
      obtain ⟨h1, h2⟩ := ih (by omega)
      rw [sortS_next l j (by omega), List.take_succ_eq_append_getElem (by omega)]
      obtain ⟨h3, h4⟩ := insS_up l[j] _ h1
      refine ⟨h3, fun x => ?_⟩
      rw [h4, h2, List.mem_append, List.mem_singleton]
      exact ⟨fun k => k.elim .inr .inl, fun k => k.elim .inr .inl⟩
  have := key l.length (Nat.le_refl _)
  rwa [List.take_length] at this
theorem rise_one {l m : List Nat} (hl : l.Pairwise (· < ·)) (hm : m.Pairwise (· < ·)) (h : ∀ x, x ∈ l ↔ x ∈ m) : l = m := by
  induction l generalizing m with
  | nil =>
    cases m with
    | nil => rfl
    | cons y m => exact absurd ((h y).2 (by simp)) (by simp)
  | cons x l ih =>
    cases m with
    | nil => exact absurd ((h x).1 (by simp)) (by simp)
    | cons y m =>
      have hl' := List.pairwise_cons.1 hl
      have hm' := List.pairwise_cons.1 hm
      have e : x = y := by
        rcases List.mem_cons.1 ((h x).1 (by simp)) with e | e
        · exact e
        · rcases List.mem_cons.1 ((h y).2 (by simp)) with k | k
          · exact k.symm
          · have := hm'.1 x e
            have := hl'.1 y k
            omega
      subst e
      rw [ih hl'.2 hm'.2 fun z => ?_]
      have hz := h z
      rw [List.mem_cons, List.mem_cons] at hz
      constructor
      · intro k
        rcases hz.1 (.inr k) with rfl | q
        · exact absurd (hl'.1 z k) (by omega)
        · exact q
      · intro k
        rcases hz.2 (.inr k) with rfl | q
        · exact absurd (hm'.1 z k) (by omega)
        · exact q
/-- Sorted, each once: as the document has it. -/
theorem sort_once {l s : List Nat} (hp : s.Perm l) (hs : s.Pairwise (· ≤ ·)) : onceS s = sortS l := by
  obtain ⟨h1, h2⟩ := onceS_rise s hs
  obtain ⟨h3, h4⟩ := sortS_up l
  exact rise_one h1 h3 fun x => by rw [h2, h4, hp.mem_iff]
end Go.Proofs.YtdegmcfcbndelaaDoor

namespace Go.Proofs.YtdegmcfcbndelaaDoor

theorem arr_get (d : Array Nat) {j : Nat} (h : j < d.size) : d.toList[j]'(by simpa using h) = d[j]! := by simp [getElem!_pos d j h]
section
variable {d dk : Array Nat} {k q : Nat}
/-- So far none has gone away. -/
def Allk (d : Array Nat) (k : Nat) : Prop := onceS (d.toList.take k) = d.toList.take k
theorem once_next (h0 : 0 < q) (hq : q < d.size) : onceS (d.toList.take (q + 1)) = if d[q]! = d[q - 1]! then onceS (d.toList.take q) else onceS (d.toList.take q) ++ [d[q]!] := by
  rw [onceS_next d.toList q h0 (by simpa using hq), arr_get d hq, arr_get d (show q - 1 < d.size by omega)]
theorem atake_next (hq : q < d.size) : d.toList.take (q + 1) = d.toList.take q ++ [d[q]!] := by
  rw [List.take_succ_eq_append_getElem (by simpa using hq), arr_get d hq]
theorem Allk.start (h : 0 < d.size) : Allk d 1 := by
  unfold Allk
  rw [atake_next h, List.take_zero]
  rfl
theorem Allk.next (h : Allk d k) (h0 : 0 < k) (hk : k < d.size) (hne : d[k]! ≠ d[k - 1]!) : Allk d (k + 1) := by
  unfold Allk at h ⊢
  rw [once_next h0 hk, if_neg hne, atake_next hk, h]
theorem Allk.end_ (h : Allk d d.size) : onceS d.toList = d.toList := by
  unfold Allk at h
  rwa [show d.toList.take d.size = d.toList by rw [List.take_of_length_le (by simp)]] at h
/-- Where the rounds are: of the first q numbers k are left, and lie ahead. -/
structure Cmp (d : Array Nat) (k q : Nat) (dk : Array Nat) : Prop where
  size : dk.size = d.size
  once : dk.toList.take k = onceS (d.toList.take q)
  len : (onceS (d.toList.take q)).length = k
  kq : k + 1 ≤ q
  qn : q ≤ d.size
  rest : ∀ t, q ≤ t + 1 → t < d.size → dk[t]! = d[t]!
theorem Cmp.start (h : Allk d k) (h0 : 0 < k) (hk : k < d.size) (he : d[k]! = d[k - 1]!) : Cmp d k (k + 1) d := by
  have e : onceS (d.toList.take (k + 1)) = d.toList.take k := by rw [once_next h0 hk, if_pos he]; exact h
  exact ⟨rfl, e.symm, by rw [e, List.length_take]; simp; omega, Nat.le_refl _, hk, fun _ _ _ => rfl⟩
theorem Cmp.same (h : Cmp d k q dk) (hq : q < d.size) (he : d[q]! = d[q - 1]!) : Cmp d k (q + 1) dk := by
  have e : onceS (d.toList.take (q + 1)) = onceS (d.toList.take q) := by rw [once_next (by have := h.kq; omega) hq, if_pos he]
  exact ⟨h.size, by rw [e]; exact h.once, by rw [e]; exact h.len, by have := h.kq; omega, hq, fun t h1 h2 => h.rest t (by omega) h2⟩
theorem Cmp.more (h : Cmp d k q dk) (hq : q < d.size) (he : d[q]! ≠ d[q - 1]!) : Cmp d (k + 1) (q + 1) (dk.setIfInBounds k d[q]!) := by
  have hk := h.kq
  have hs := h.size
  have e : onceS (d.toList.take (q + 1)) = onceS (d.toList.take q) ++ [d[q]!] := by rw [once_next (by omega) hq, if_neg he]
  refine ⟨by simpa using hs, ?_, by rw [e, List.length_append, h.len]; rfl, by omega, hq, fun t h1 h2 => ?_⟩
  · rw [e, ← h.once, Array.toList_setIfInBounds, List.take_succ_eq_append_getElem (by rw [List.length_set]; simp; omega), List.getElem_set_self]
    congr 1
    rw [List.take_set_of_le (Nat.le_refl _)]
  · rw [Go.Sort.getElem!_set_other dk k t _ (by omega)]
    exact h.rest t (by omega) h2
end
end Go.Proofs.YtdegmcfcbndelaaDoor

namespace Go.Proofs.YtdegmcfcbndelaaDoor
open Go.RowKit Go.Sort

/-- Less, as the rounds of the sort want it. -/
theorem sless_any (x y : Nat) (W : World) : Calls Tryd.prog 114 #[.int .u64 (x : Int), .int .u64 (y : Int)] W fun r W' => r = .returned (.bool (ltN x y)) ∧ W' = W :=
  pless_any x y W
theorem ins_go (a j : Nat) (d : Array Nat) (hj : a < j) (hl : ltN d[j]! d[j - 1]! = true) : insInner ltN a j d = insInner ltN a (j - 1) (swp d j (j - 1)) := by
  obtain ⟨k, rfl⟩ : ∃ k, j = k + 1 := ⟨j - 1, by omega⟩
  rw [Nat.add_sub_cancel] at hl ⊢
  rw [insInner, hl, if_pos (by simpa using hj)]
theorem ins_stop (a j : Nat) (d : Array Nat) (h : j ≤ a ∨ ltN d[j]! d[j - 1]! = false) : insInner ltN a j d = d := by
  cases j with
  | zero => rw [insInner]
  | succ k =>
    rw [Nat.add_sub_cancel] at h
    rw [insInner, if_neg]
    rcases h with h | h
    · simp; omega
    · simp [h]
theorem ins_next (a z i : Nat) (d : Array Nat) (h : i < z) : insOuter ltN a z i d = insOuter ltN a z (i + 1) (insInner ltN a i d) := by rw [insOuter, if_pos h]
theorem ins_end (a z i : Nat) (d : Array Nat) (h : ¬ i < z) : insOuter ltN a z i d = d := by rw [insOuter, if_neg h]
theorem swp_size' (d : Array Nat) (i j : Nat) : (swp d i j).size = d.size := by simp [swp]
set_option maxRecDepth 100000 in
set_option maxHeartbeats 1000000 in
theorem insertion_any (b c a z n : Nat) (d : Array Nat) (sp : Array Value) (W : World) (h : At W b (cel d sp) 23) (hn : d.size = n) (haz : a ≤ z) (hz : z ≤ n) (hs : n ≤ 1000000) :
    Calls Tryd.prog 127 #[.slice (some ⟨b, 0, none⟩) n c, .int .i64 (a : Int), .int .i64 (z : Int)] W fun e w' => e = .returned (.tuple #[]) ∧ Sw W b sp (insertionSort ltN d a z) w' := by
  obtain ⟨o, ho⟩ : ∃ o, o = 0 := ⟨_, rfl⟩
  rw [← ho]
  have HO := hid ho
  have HST := hid (Sw.start h)
  have HLS := hid (fun (x y : Nat) (V : World) => sless_any x y V)
  have HN := hid hn
  have HB := hid (show a ≤ z ∧ z ≤ n ∧ n ≤ 1000000 from ⟨haz, hz, hs⟩)
  clear h hn ho haz hz hs
  obtain ⟨a1, ha1⟩ : ∃ m, m = a + 1 := ⟨_, rfl⟩
  have e1 : (a : Int) + 1 = (a1 : Int) := by omega
  have ew1 : IntKind.i64.wrap (a1 : Int) = (a1 : Int) := by rw [IntKind.wrap_i64] <;> have := HB.out <;> omega
  have HA1 := hid ha1
  clear ha1
  go_enter Tryd.func127, Tryd.ntmps127
  go_wp2
  go_loopw [6] (fun vi wr => ∃ (i : Nat) (dk : Array Nat), vi = .int .i64 (i : Int) ∧ a < i ∧ i ≤ z + 1 ∧ Hid (dk.size = n ∧ Sw W b sp dk wr ∧ insOuter ltN a z i dk = insertionSort ltN d a z)) (fun vi _ => z + 1 - (intOf vi).toNat)
  case atStart => exact ⟨a1, d, rfl, by have := HA1.out; omega, by have := HA1.out; have := HB.out; omega, hid ⟨HN.out, HST.out, by rw [HA1.out]; rfl⟩⟩
  case round =>
    obtain ⟨i, dk, rfl, hai, hiz, HK⟩ := hrel
    by_cases hlt : i < z
    · have d1 : decide ((i : Int) < (z : Int)) = true := by simp; omega
      have d1n : decide (i < z) = true := by simpa using hlt
      obtain ⟨i1, hi1⟩ : ∃ m, m = i + 1 := ⟨_, rfl⟩
      have e2 : (i : Int) + 1 = (i1 : Int) := by omega
      have ew2 : IntKind.i64.wrap (i1 : Int) = (i1 : Int) := by rw [IntKind.wrap_i64] <;> have := HB.out <;> omega
      have HI := hid (show i < z ∧ a < i1 ∧ i1 ≤ z + 1 ∧ z + 1 - i1 < z + 1 - i ∧ i1 = i + 1 ∧ a < i by omega)
      clear hlt hi1 hai hiz
      go_wp2
      go_loopw [7] (fun vj wr2 => ∃ (j : Nat) (dj : Array Nat), vj = .int .i64 (j : Int) ∧ a ≤ j ∧ j ≤ i ∧ Hid (dj.size = n ∧ Sw W b sp dj wr2 ∧ insInner ltN a j dj = insInner ltN a i dk)) (fun vj _ => (intOf vj).toNat)
      case atStart => exact ⟨i, dk, rfl, by have := HI.out; omega, Nat.le_refl _, hid ⟨HK.out.1, HK.out.2.1, rfl⟩⟩
      case round =>
        obtain ⟨j, dj, rfl, haj, hji, HJ⟩ := hrel
        have HOUT := hid (fun (V : World) (hst : j ≤ a ∨ ltN dj[j]! dj[j - 1]! = false) (hV : Sw W b sp dj V) => show dj.size = n ∧ Sw W b sp dj V ∧ insOuter ltN a z i1 dj = insertionSort ltN d a z from
          ⟨HJ.out.1, hV, by rw [← HK.out.2.2, ins_next a z i dk HI.out.1, ← HJ.out.2.2, ins_stop a j dj hst, HI.out.2.2.2.2.1]⟩)
        by_cases hja : a < j
        · have d2 : decide ((a : Int) < (j : Int)) = true := by simp; omega
          have d2n : decide (a < j) = true := by simpa using hja
          obtain ⟨j1, hj1⟩ : ∃ m, m = j - 1 := ⟨_, rfl⟩
          have e3 : (j : Int) - 1 = (j1 : Int) := by omega
          have ew3 : IntKind.i64.wrap (j1 : Int) = (j1 : Int) := by rw [IntKind.wrap_i64] <;> have := HB.out <;> have := HI.out <;> omega
          have hjn : j < dj.size := by have := HB.out; have := HI.out; have := HJ.out.1; omega
          have hjn1 : j1 < dj.size := by omega
          have ik0 : (j : Int) < (n : Int) := by have := HJ.out.1; omega
          have ik1 : (j1 : Int) < (n : Int) := by have := HJ.out.1; omega
          have HPK := hid (fun (V : World) (hV : Sw W b sp dj V) => Sw.pack HO.out hjn hjn1 V hV)
          obtain ⟨x, hx⟩ : ∃ x, x = dj[j]! := ⟨_, rfl⟩
          obtain ⟨y, hy⟩ : ∃ x, x = dj[j1]! := ⟨_, rfl⟩
          obtain ⟨p0, hp0⟩ : ∃ x, x = o + j := ⟨_, rfl⟩
          obtain ⟨p1, hp1⟩ : ∃ x, x = o + j1 := ⟨_, rfl⟩
          rw [← hx, ← hy, ← hp0, ← hp1] at HPK
          have ep0 := hp0.symm
          have ep1 := hp1.symm
          obtain ⟨c0, c1, f0, f1, -⟩ := HPK.out wr HJ.out.2.1
          have HV := hid HJ.out.2.1
          have HQ := hid (fun (V : World) => sless_any x y V)
          cases hl : ltN x y with
          | true =>
            rw [hl] at HQ
            have HNX := hid (show (swp dj j j1).size = n ∧ insInner ltN a j1 (swp dj j j1) = insInner ltN a i dk from ⟨by rw [swp_size']; exact HJ.out.1, by
              rw [← HJ.out.2.2, ins_go a j dj hja (by rw [← hj1, ← hx, ← hy]; exact hl), ← hj1]⟩)
            have HM := hid (show a ≤ j1 ∧ j1 ≤ i ∧ j1 < j by omega)
            clear hx hy hp0 hp1 hl hjn hjn1 hj1 hja haj hji HOUT HJ
            go_wp2
            go_quiet (first | (go_at_call 114; refine Calls.quiet_of_same (HQ.out _)))
            have V1 := hid (HV.out.drewN nq)
            clear c0 c1 f0 f1 HV
            generalize wr.drewN nq = V at V1 ⊢
            obtain ⟨c0, c1, f0, f1, hsw⟩ := HPK.out V V1.out
            have HSW := hid hsw
            clear hsw
            go_wp2
            go_region
            clear c0 c1 f0 f1
            go_wp2
            exact ⟨⟨j1, swp dj j j1, rfl, HM.out.1, HM.out.2.1, hid ⟨HNX.out.1, HSW.out, HNX.out.2⟩⟩, by
              show ((j1 : Int)).toNat < ((j : Int)).toNat
              rw [Int.toNat_natCast, Int.toNat_natCast]
              exact HM.out.2.2⟩
          | false =>
            rw [hl] at HQ
            have HW := hid (fun (q : Nat) => HOUT.out (wr.drewN q) (.inr (by rw [← hj1, ← hx, ← hy]; exact hl)) (HJ.out.2.1.drewN q))
            clear hx hy hp0 hp1 hl hjn hjn1 hj1 hja haj hji HOUT HJ HPK
            go_wp2
            go_quiet (first | (go_at_call 114; refine Calls.quiet_of_same (HQ.out _)))
            have V1 := hid (HW.out nq)
            clear c0 c1 f0 f1 HV HW
            generalize wr.drewN nq = V at V1 ⊢
            go_wp2
            exact ⟨⟨i1, dj, rfl, HI.out.2.1, HI.out.2.2.1, V1⟩, by
              show z + 1 - ((i1 : Int)).toNat < z + 1 - ((i : Int)).toNat
              rw [Int.toNat_natCast, Int.toNat_natCast]
              exact HI.out.2.2.2.1⟩
        · have d2 : decide ((a : Int) < (j : Int)) = false := by simp; omega
          have d2n : decide (a < j) = false := by simpa using hja
          have HW := hid (fun (q : Nat) => HOUT.out (wr.drewN q) (.inl (by omega)) (HJ.out.2.1.drewN q))
          clear hja haj hji HOUT HJ
          go_wp2
          go_quiet (fail)
          have V1 := hid (HW.out nq)
          clear HW
          generalize wr.drewN nq = V at V1 ⊢
          go_wp2
          exact ⟨⟨i1, dj, rfl, HI.out.2.1, HI.out.2.2.1, V1⟩, by
            show z + 1 - ((i1 : Int)).toNat < z + 1 - ((i : Int)).toNat
            rw [Int.toNat_natCast, Int.toNat_natCast]
            exact HI.out.2.2.2.1⟩
    · have d1 : decide ((i : Int) < (z : Int)) = false := by simp; omega
      have d1n : decide (i < z) = false := by simpa using hlt
      have HE := hid (show insertionSort ltN d a z = dk by rw [← HK.out.2.2, ins_end a z i dk hlt])
      clear hlt hai hiz
      go_wp2
      go_end0
      exact ⟨rfl, by rw [HE.out]; exact HK.out.2.1⟩
end Go.Proofs.YtdegmcfcbndelaaDoor

namespace Go.Proofs.YtdegmcfcbndelaaDoor
open Go.RowKit Go.Sort

set_option maxRecDepth 100000 in
set_option maxHeartbeats 1000000 in
theorem reverse_any (b c a z n : Nat) (d : Array Nat) (sp : Array Value) (W : World) (h : At W b (cel d sp) 23) (hn : d.size = n) (haz : a < z) (hz : z ≤ n) (hs : n ≤ 1000000) :
    Calls Tryd.prog 131 #[.slice (some ⟨b, 0, none⟩) n c, .int .i64 (a : Int), .int .i64 (z : Int)] W fun e w' => e = .returned (.tuple #[]) ∧ ∃ d', Sw W b sp d' w' ∧ PermIn a z d d' := by
  obtain ⟨o, ho⟩ : ∃ o, o = 0 := ⟨_, rfl⟩
  rw [← ho]
  have HO := hid ho
  have HST := hid (Sw.start h)
  have HN := hid hn
  have HB := hid (show a < z ∧ z ≤ n ∧ n ≤ 1000000 from ⟨haz, hz, hs⟩)
  obtain ⟨z1, hz1⟩ : ∃ m, m = z - 1 := ⟨_, rfl⟩
  have e1 : (z : Int) - 1 = (z1 : Int) := by omega
  have ew1 : IntKind.i64.wrap (z1 : Int) = (z1 : Int) := by rw [IntKind.wrap_i64] <;> have := HB.out <;> omega
  have HZ1 := hid hz1
  clear h hn ho haz hz hs hz1
  go_enter Tryd.func131, Tryd.ntmps131
  go_wp2
  go_loopw [6, 7] (fun vi vj wr => ∃ (i j : Nat) (dk : Array Nat), vi = .int .i64 (i : Int) ∧ vj = .int .i64 (j : Int) ∧ a ≤ i ∧ i ≤ j + 1 ∧ j < z ∧ Hid (dk.size = n ∧ Sw W b sp dk wr ∧ PermIn a z d dk)) (fun _ vj _ => (intOf vj).toNat)
  case atStart => exact ⟨a, z1, d, rfl, rfl, Nat.le_refl _, by have := HZ1.out; have := HB.out; omega, by have := HZ1.out; have := HB.out; omega, hid ⟨HN.out, HST.out, permIn_refl _ _ _⟩⟩
  case round =>
    obtain ⟨i, j, dk, rfl, rfl, hai, hij, hjz, HK⟩ := hrel
    by_cases hlt : i < j
    · have d1 : decide ((i : Int) < (j : Int)) = true := by simp; omega
      have d1n : decide (i < j) = true := by simpa using hlt
      obtain ⟨i1, hi1⟩ : ∃ m, m = i + 1 := ⟨_, rfl⟩
      have e2 : (i : Int) + 1 = (i1 : Int) := by omega
      have ew2 : IntKind.i64.wrap (i1 : Int) = (i1 : Int) := by rw [IntKind.wrap_i64] <;> have := HB.out <;> omega
      obtain ⟨j1, hj1⟩ : ∃ m, m = j - 1 := ⟨_, rfl⟩
      have e3 : (j : Int) - 1 = (j1 : Int) := by omega
      have ew3 : IntKind.i64.wrap (j1 : Int) = (j1 : Int) := by rw [IntKind.wrap_i64] <;> have := HB.out <;> omega
      have hin : i < dk.size := by have := HB.out; have := HK.out.1; omega
      have hjn : j < dk.size := by have := HB.out; have := HK.out.1; omega
      have ik0 : (i : Int) < (n : Int) := by have := HB.out; omega
      have ik1 : (j : Int) < (n : Int) := by have := HB.out; omega
      have hpk := Sw.pack HO.out hin hjn wr HK.out.2.1
      obtain ⟨x, hx⟩ : ∃ x, x = dk[i]! := ⟨_, rfl⟩
      obtain ⟨y, hy⟩ : ∃ x, x = dk[j]! := ⟨_, rfl⟩
      obtain ⟨p0, hp0⟩ : ∃ x, x = o + i := ⟨_, rfl⟩
      obtain ⟨p1, hp1⟩ : ∃ x, x = o + j := ⟨_, rfl⟩
      rw [← hx, ← hy, ← hp0, ← hp1] at hpk
      have ep0 := hp0.symm
      have ep1 := hp1.symm
      obtain ⟨c0, c1, f0, f1, hsw⟩ := hpk
      have hne : ¬ p0 = p1 := by omega
      have hne' : ¬ p1 = p0 := by omega
      have HSW := hid hsw
      have HNX := hid (show (swp dk i j).size = n ∧ PermIn a z d (swp dk i j) from ⟨by rw [swp_size']; exact HK.out.1, permIn_trans _ _ _ _ _ HK.out.2.2 (swp_permIn dk a z i j hai (by omega) (by omega) hjz (by have := HB.out; have := HK.out.1; omega))⟩)
      have HM := hid (show a ≤ i1 ∧ i1 ≤ j1 + 1 ∧ j1 < z ∧ j1 < j by omega)
      clear hsw hx hy hp0 hp1 hin hjn hi1 hj1 hlt hai hij hjz HK
      go_wp2
      go_region
      clear c0 c1 f0 f1 hne hne'
      go_wp2
      exact ⟨⟨i1, j1, swp dk i j, rfl, rfl, HM.out.1, HM.out.2.1, HM.out.2.2.1, hid ⟨HNX.out.1, HSW.out, HNX.out.2⟩⟩, by
        show ((j1 : Int)).toNat < ((j : Int)).toNat
        rw [Int.toNat_natCast, Int.toNat_natCast]
        exact HM.out.2.2.2⟩
    · have d1 : decide ((i : Int) < (j : Int)) = false := by simp; omega
      have d1n : decide (i < j) = false := by simpa using hlt
      clear hlt hai hij hjz
      go_wp2
      go_end0
      exact ⟨rfl, dk, HK.out.2.1, HK.out.2.2⟩
end Go.Proofs.YtdegmcfcbndelaaDoor

namespace Go.Proofs.YtdegmcfcbndelaaDoor
open Go.RowKit Go.Sort

theorem sd_end {hi F r : Nat} (d : Array Nat) (h : ¬ 2 * r + 1 < hi) : siftDown ltN hi F r d = d := by rw [siftDown, dif_pos (by omega)]
theorem sd_right {hi F r : Nat} (d : Array Nat) (h2 : 2 * r + 2 < hi) (hc : ltN d[F + (2 * r + 1)]! d[F + (2 * r + 2)]! = true) :
    siftDown ltN hi F r d = if ltN d[F + r]! d[F + (2 * r + 2)]! then siftDown ltN hi F (2 * r + 2) (swp d (F + r) (F + (2 * r + 2))) else d := by
  rw [siftDown, dif_neg (by omega), show F + (2 * r + 1) + 1 = F + (2 * r + 2) by omega, hc]
  have h3 : 2 * r + 1 + 1 < hi := by omega
  cases ltN d[F + r]! d[F + (2 * r + 2)]! <;> simp [h3]
theorem sd_left {hi F r : Nat} (d : Array Nat) (h1 : 2 * r + 1 < hi) (hc : 2 * r + 2 < hi → ltN d[F + (2 * r + 1)]! d[F + (2 * r + 2)]! = false) :
    siftDown ltN hi F r d = if ltN d[F + r]! d[F + (2 * r + 1)]! then siftDown ltN hi F (2 * r + 1) (swp d (F + r) (F + (2 * r + 1))) else d := by
  rw [siftDown, dif_neg (by omega), show F + (2 * r + 1) + 1 = F + (2 * r + 2) by omega]
  by_cases h3 : 2 * r + 2 < hi
  · rw [hc h3]
    cases ltN d[F + r]! d[F + (2 * r + 1)]! <;> simp
  · have h4 : ¬ 2 * r + 1 + 1 < hi := by omega
    cases ltN d[F + r]! d[F + (2 * r + 1)]! <;> simp [h4]
set_option maxRecDepth 100000 in
set_option maxHeartbeats 4000000 in
theorem sift_any (b c lo hi F n : Nat) (d : Array Nat) (sp : Array Value) (W : World) (h : At W b (cel d sp) 23) (hn : d.size = n) (hlo : lo ≤ hi) (hz : F + hi ≤ n) (hs : n ≤ 1000000) :
    Calls Tryd.prog 138 #[.slice (some ⟨b, 0, none⟩) n c, .int .i64 (lo : Int), .int .i64 (hi : Int), .int .i64 (F : Int)] W fun e w' => e = .returned (.tuple #[]) ∧ Sw W b sp (siftDown ltN hi F lo d) w' := by
  obtain ⟨o, ho⟩ : ∃ o, o = 0 := ⟨_, rfl⟩
  rw [← ho]
  have HO := hid ho
  have HST := hid (Sw.start h)
  have HN := hid hn
  have HB := hid (show lo ≤ hi ∧ F + hi ≤ n ∧ n ≤ 1000000 from ⟨hlo, hz, hs⟩)
  clear h hn ho hlo hz hs
  go_enter Tryd.func138, Tryd.ntmps138
  go_wp2
  go_loopw [8] (fun v wr => ∃ (r : Nat) (dk : Array Nat), v = .int .i64 (r : Int) ∧ r ≤ hi ∧ Hid (dk.size = n ∧ Sw W b sp dk wr ∧ siftDown ltN hi F r dk = siftDown ltN hi F lo d)) (fun v _ => hi - (intOf v).toNat)
  case atStart => exact ⟨lo, d, rfl, HB.out.1, hid ⟨HN.out, HST.out, rfl⟩⟩
  case round =>
    obtain ⟨r, dk, rfl, hr, HK⟩ := hrel
    obtain ⟨k1, hk1⟩ : ∃ m, m = 2 * r := ⟨_, rfl⟩
    have e1 : (2 : Int) * (r : Int) = (k1 : Int) := by omega
    have ew1 : IntKind.i64.wrap (k1 : Int) = (k1 : Int) := by rw [IntKind.wrap_i64] <;> have := HB.out <;> omega
    obtain ⟨c1, hc1⟩ : ∃ m, m = 2 * r + 1 := ⟨_, rfl⟩
    have e2 : (k1 : Int) + 1 = (c1 : Int) := by omega
    have ew2 : IntKind.i64.wrap (c1 : Int) = (c1 : Int) := by rw [IntKind.wrap_i64] <;> have := HB.out <;> omega
    by_cases hlt : c1 < hi
    · have d1 : decide ((hi : Int) ≤ (c1 : Int)) = false := by simp; omega
      have d1n : decide (hi ≤ c1) = false := by simp; omega
      obtain ⟨c2, hc2⟩ : ∃ m, m = 2 * r + 2 := ⟨_, rfl⟩
      have e3 : (c1 : Int) + 1 = (c2 : Int) := by omega
      have ew3 : IntKind.i64.wrap (c2 : Int) = (c2 : Int) := by rw [IntKind.wrap_i64] <;> have := HB.out <;> omega
      obtain ⟨q0, hq0⟩ : ∃ m, m = F + r := ⟨_, rfl⟩
      have e4 : (F : Int) + (r : Int) = (q0 : Int) := by omega
      have ew4 : IntKind.i64.wrap (q0 : Int) = (q0 : Int) := by rw [IntKind.wrap_i64] <;> have := HB.out <;> omega
      obtain ⟨q1, hq1⟩ : ∃ m, m = F + c1 := ⟨_, rfl⟩
      have e5 : (F : Int) + (c1 : Int) = (q1 : Int) := by omega
      have ew5 : IntKind.i64.wrap (q1 : Int) = (q1 : Int) := by rw [IntKind.wrap_i64] <;> have := HB.out <;> omega
      obtain ⟨q2, hq2⟩ : ∃ m, m = F + c2 := ⟨_, rfl⟩
      have e6 : (q1 : Int) + 1 = (q2 : Int) := by omega
      have e7 : (F : Int) + (c2 : Int) = (q2 : Int) := by omega
      have ew6 : IntKind.i64.wrap (q2 : Int) = (q2 : Int) := by rw [IntKind.wrap_i64] <;> have := HB.out <;> omega
      have h0 : q0 < dk.size := by have := HB.out; have := HK.out.1; omega
      have h1 : q1 < dk.size := by have := HB.out; have := HK.out.1; omega
      have ik0 : (q0 : Int) < (n : Int) := by have := HB.out; omega
      have ik1 : (q1 : Int) < (n : Int) := by have := HB.out; omega
      by_cases hlt2 : c2 < hi
      · have d2 : decide ((c2 : Int) < (hi : Int)) = true := by simp; omega
        have d2n : decide (c2 < hi) = true := by simpa using hlt2
        have h2 : q2 < dk.size := by have := HB.out; have := HK.out.1; omega
        have ik2 : (q2 : Int) < (n : Int) := by have := HB.out; omega
        cases hl : ltN dk[q1]! dk[q2]! with
        | true =>
          have HSD := hid (show siftDown ltN hi F lo d = if ltN dk[q0]! dk[q2]! then siftDown ltN hi F c2 (swp dk q0 q2) else dk by
            rw [← HK.out.2.2, hq0, hq2, hc2]
            exact sd_right dk (by omega) (by rw [← hc1, ← hc2, ← hq1, ← hq2]; exact hl))
          have HM := hid (show c2 ≤ hi ∧ hi - c2 < hi - r by omega)
          have HPK := hid (fun (V : World) (hV : Sw W b sp dk V) => Sw.pack HO.out h0 h2 V hV)
          have HP2 := hid (fun (V : World) (hV : Sw W b sp dk V) => Sw.pack HO.out h1 h2 V hV)
          have HSZ := hid (show (swp dk q0 q2).size = n by rw [swp_size']; exact HK.out.1)
          obtain ⟨p0, hp0⟩ : ∃ x, x = o + q0 := ⟨_, rfl⟩
          obtain ⟨p1, hp1⟩ : ∃ x, x = o + q1 := ⟨_, rfl⟩
          obtain ⟨p2, hp2⟩ : ∃ x, x = o + q2 := ⟨_, rfl⟩
          have ep0 := hp0.symm
          have ep1 := hp1.symm
          have ep2 := hp2.symm
          rw [← hp0, ← hp2] at HPK
          have hne : ¬ p0 = p2 := by omega
          have hne' : ¬ p2 = p0 := by omega
          obtain ⟨x0, hx0⟩ : ∃ x, x = dk[q0]! := ⟨_, rfl⟩
          obtain ⟨x1, hx1⟩ : ∃ x, x = dk[q1]! := ⟨_, rfl⟩
          obtain ⟨x2, hx2⟩ : ∃ x, x = dk[q2]! := ⟨_, rfl⟩
          rw [← hx0, ← hx2] at HPK HSD
          rw [← hp1, ← hp2, ← hx1, ← hx2] at HP2
          rw [← hx1, ← hx2] at hl
          have HQ := hid (fun (V : World) => sless_any x1 x2 V)
          rw [hl] at HQ
          obtain ⟨g0, g1, -, -, -⟩ := HP2.out wr HK.out.2.1
          have HV := hid HK.out.2.1
          have HR := hid (fun (V : World) => sless_any x0 x2 V)
          cases hm : ltN x0 x2 with
          | true =>
            rw [hm] at HR HSD
            rw [if_pos rfl] at HSD
            clear hk1 hc1 hc2 hq0 hq1 hq2 hp0 hp1 hp2 hx0 hx1 hx2 hlt hr h0 h1 hm h2 hl hlt2
            go_wp2
            go_quiet (first | (go_at_call 114; refine Calls.quiet_of_same (HQ.out _)))
            have V1 := hid (HV.out.drewN nq)
            clear g0 g1 HV HK HP2 HQ
            generalize wr.drewN nq = W1 at V1 ⊢
            obtain ⟨a0, a1, -, -, -⟩ := HPK.out W1 V1.out
            go_wp2
            revert nq
            intro nq1
            go_quiet (first | (go_at_call 114; refine Calls.quiet_of_same (HR.out _)))
            have V2 := hid (V1.out.drewN nq)
            clear a0 a1 V1 HR
            generalize W1.drewN nq = W2 at V2 ⊢
            obtain ⟨a0, a1, f0, f1, hsw⟩ := HPK.out W2 V2.out
            have HSW := hid hsw
            clear hsw
            go_wp2
            go_region
            clear a0 a1 f0 f1 hne hne'
            go_wp2
            exact ⟨⟨c2, swp dk q0 q2, rfl, HM.out.1, hid ⟨HSZ.out, HSW.out, HSD.out.symm⟩⟩, by
              show hi - ((c2 : Int)).toNat < hi - ((r : Int)).toNat
              rw [Int.toNat_natCast, Int.toNat_natCast]
              exact HM.out.2⟩
          | false =>
            rw [hm] at HR HSD
            rw [if_neg (by decide)] at HSD
            clear hk1 hc1 hc2 hq0 hq1 hq2 hp0 hp1 hp2 hx0 hx1 hx2 hlt hr h0 h1 hm h2 hl hlt2
            go_wp2
            go_quiet (first | (go_at_call 114; refine Calls.quiet_of_same (HQ.out _)))
            have V1 := hid (HV.out.drewN nq)
            clear g0 g1 HV HK HP2 HQ
            generalize wr.drewN nq = W1 at V1 ⊢
            obtain ⟨a0, a1, -, -, -⟩ := HPK.out W1 V1.out
            go_wp2
            revert nq
            intro nq1
            go_quiet (first | (go_at_call 114; refine Calls.quiet_of_same (HR.out _)))
            have V2 := hid (V1.out.drewN nq)
            clear a0 a1 V1 HR
            generalize W1.drewN nq = W2 at V2 ⊢
            go_wp2
            (try simp only [Exit.inBlock, Exit.then]); refine bodyPost_ret (results_none rfl _ _ _) rfl ?_
            exact ⟨rfl, by rw [HSD.out]; exact V2.out⟩
        | false =>
          have HSD := hid (show siftDown ltN hi F lo d = if ltN dk[q0]! dk[q1]! then siftDown ltN hi F c1 (swp dk q0 q1) else dk by
            rw [← HK.out.2.2, hq0, hq1, hc1]
            exact sd_left dk (by omega) (fun _ => by rw [← hc1, ← hc2, ← hq1, ← hq2]; exact hl))
          have HM := hid (show c1 ≤ hi ∧ hi - c1 < hi - r by omega)
          have HPK := hid (fun (V : World) (hV : Sw W b sp dk V) => Sw.pack HO.out h0 h1 V hV)
          have HP2 := hid (fun (V : World) (hV : Sw W b sp dk V) => Sw.pack HO.out h1 h2 V hV)
          have HSZ := hid (show (swp dk q0 q1).size = n by rw [swp_size']; exact HK.out.1)
          obtain ⟨p0, hp0⟩ : ∃ x, x = o + q0 := ⟨_, rfl⟩
          obtain ⟨p1, hp1⟩ : ∃ x, x = o + q1 := ⟨_, rfl⟩
          obtain ⟨p2, hp2⟩ : ∃ x, x = o + q2 := ⟨_, rfl⟩
          have ep0 := hp0.symm
          have ep1 := hp1.symm
          have ep2 := hp2.symm
          rw [← hp0, ← hp1] at HPK
          have hne : ¬ p0 = p1 := by omega
          have hne' : ¬ p1 = p0 := by omega
          obtain ⟨x0, hx0⟩ : ∃ x, x = dk[q0]! := ⟨_, rfl⟩
          obtain ⟨x1, hx1⟩ : ∃ x, x = dk[q1]! := ⟨_, rfl⟩
          obtain ⟨x2, hx2⟩ : ∃ x, x = dk[q2]! := ⟨_, rfl⟩
          rw [← hx0, ← hx1] at HPK HSD
          rw [← hp1, ← hp2, ← hx1, ← hx2] at HP2
          rw [← hx1, ← hx2] at hl
          have HQ := hid (fun (V : World) => sless_any x1 x2 V)
          rw [hl] at HQ
          obtain ⟨g0, g1, -, -, -⟩ := HP2.out wr HK.out.2.1
          have HV := hid HK.out.2.1
          have HR := hid (fun (V : World) => sless_any x0 x1 V)
          cases hm : ltN x0 x1 with
          | true =>
            rw [hm] at HR HSD
            rw [if_pos rfl] at HSD
            clear hk1 hc1 hc2 hq0 hq1 hq2 hp0 hp1 hp2 hx0 hx1 hx2 hlt hr h0 h1 hm h2 hl hlt2
            go_wp2
            go_quiet (first | (go_at_call 114; refine Calls.quiet_of_same (HQ.out _)))
            have V1 := hid (HV.out.drewN nq)
            clear g0 g1 HV HK HP2 HQ
            generalize wr.drewN nq = W1 at V1 ⊢
            obtain ⟨a0, a1, -, -, -⟩ := HPK.out W1 V1.out
            go_wp2
            revert nq
            intro nq1
            go_quiet (first | (go_at_call 114; refine Calls.quiet_of_same (HR.out _)))
            have V2 := hid (V1.out.drewN nq)
            clear a0 a1 V1 HR
            generalize W1.drewN nq = W2 at V2 ⊢
            obtain ⟨a0, a1, f0, f1, hsw⟩ := HPK.out W2 V2.out
            have HSW := hid hsw
            clear hsw
            go_wp2
            go_region
            clear a0 a1 f0 f1 hne hne'
            go_wp2
            exact ⟨⟨c1, swp dk q0 q1, rfl, HM.out.1, hid ⟨HSZ.out, HSW.out, HSD.out.symm⟩⟩, by
              show hi - ((c1 : Int)).toNat < hi - ((r : Int)).toNat
              rw [Int.toNat_natCast, Int.toNat_natCast]
              exact HM.out.2⟩
          | false =>
            rw [hm] at HR HSD
            rw [if_neg (by decide)] at HSD
            clear hk1 hc1 hc2 hq0 hq1 hq2 hp0 hp1 hp2 hx0 hx1 hx2 hlt hr h0 h1 hm h2 hl hlt2
            go_wp2
            go_quiet (first | (go_at_call 114; refine Calls.quiet_of_same (HQ.out _)))
            have V1 := hid (HV.out.drewN nq)
            clear g0 g1 HV HK HP2 HQ
            generalize wr.drewN nq = W1 at V1 ⊢
            obtain ⟨a0, a1, -, -, -⟩ := HPK.out W1 V1.out
            go_wp2
            revert nq
            intro nq1
            go_quiet (first | (go_at_call 114; refine Calls.quiet_of_same (HR.out _)))
            have V2 := hid (V1.out.drewN nq)
            clear a0 a1 V1 HR
            generalize W1.drewN nq = W2 at V2 ⊢
            go_wp2
            (try simp only [Exit.inBlock, Exit.then]); refine bodyPost_ret (results_none rfl _ _ _) rfl ?_
            exact ⟨rfl, by rw [HSD.out]; exact V2.out⟩
      · have d2 : decide ((c2 : Int) < (hi : Int)) = false := by simp; omega
        have d2n : decide (c2 < hi) = false := by simpa using hlt2
        have HSD := hid (show siftDown ltN hi F lo d = if ltN dk[q0]! dk[q1]! then siftDown ltN hi F c1 (swp dk q0 q1) else dk by
          rw [← HK.out.2.2, hq0, hq1, hc1]
          exact sd_left dk (by omega) (fun hh => by omega))
        have HM := hid (show c1 ≤ hi ∧ hi - c1 < hi - r by omega)
        have HPK := hid (fun (V : World) (hV : Sw W b sp dk V) => Sw.pack HO.out h0 h1 V hV)
        have HSZ := hid (show (swp dk q0 q1).size = n by rw [swp_size']; exact HK.out.1)
        obtain ⟨p0, hp0⟩ : ∃ x, x = o + q0 := ⟨_, rfl⟩
        obtain ⟨p1, hp1⟩ : ∃ x, x = o + q1 := ⟨_, rfl⟩
        obtain ⟨p2, hp2⟩ : ∃ x, x = o + q2 := ⟨_, rfl⟩
        have ep0 := hp0.symm
        have ep1 := hp1.symm
        have ep2 := hp2.symm
        rw [← hp0, ← hp1] at HPK
        have hne : ¬ p0 = p1 := by omega
        have hne' : ¬ p1 = p0 := by omega
        obtain ⟨x0, hx0⟩ : ∃ x, x = dk[q0]! := ⟨_, rfl⟩
        obtain ⟨x1, hx1⟩ : ∃ x, x = dk[q1]! := ⟨_, rfl⟩
        obtain ⟨x2, hx2⟩ : ∃ x, x = dk[q2]! := ⟨_, rfl⟩
        rw [← hx0, ← hx1] at HPK HSD
        have HV := hid HK.out.2.1
        have HR := hid (fun (V : World) => sless_any x0 x1 V)
        cases hm : ltN x0 x1 with
        | true =>
          rw [hm] at HR HSD
          rw [if_pos rfl] at HSD
          clear hk1 hc1 hc2 hq0 hq1 hq2 hp0 hp1 hp2 hx0 hx1 hx2 hlt hr h0 h1 hm hlt2
          go_wp2
          go_quiet (fail)
          have V1 := hid (HV.out.drewN nq)
          clear HV HK
          generalize wr.drewN nq = W1 at V1 ⊢
          obtain ⟨a0, a1, -, -, -⟩ := HPK.out W1 V1.out
          go_wp2
          revert nq
          intro nq1
          go_quiet (first | (go_at_call 114; refine Calls.quiet_of_same (HR.out _)))
          have V2 := hid (V1.out.drewN nq)
          clear a0 a1 V1 HR
          generalize W1.drewN nq = W2 at V2 ⊢
          obtain ⟨a0, a1, f0, f1, hsw⟩ := HPK.out W2 V2.out
          have HSW := hid hsw
          clear hsw
          go_wp2
          go_region
          clear a0 a1 f0 f1 hne hne'
          go_wp2
          exact ⟨⟨c1, swp dk q0 q1, rfl, HM.out.1, hid ⟨HSZ.out, HSW.out, HSD.out.symm⟩⟩, by
            show hi - ((c1 : Int)).toNat < hi - ((r : Int)).toNat
            rw [Int.toNat_natCast, Int.toNat_natCast]
            exact HM.out.2⟩
        | false =>
          rw [hm] at HR HSD
          rw [if_neg (by decide)] at HSD
          clear hk1 hc1 hc2 hq0 hq1 hq2 hp0 hp1 hp2 hx0 hx1 hx2 hlt hr h0 h1 hm hlt2
          go_wp2
          go_quiet (fail)
          have V1 := hid (HV.out.drewN nq)
          clear HV HK
          generalize wr.drewN nq = W1 at V1 ⊢
          obtain ⟨a0, a1, -, -, -⟩ := HPK.out W1 V1.out
          go_wp2
          revert nq
          intro nq1
          go_quiet (first | (go_at_call 114; refine Calls.quiet_of_same (HR.out _)))
          have V2 := hid (V1.out.drewN nq)
          clear a0 a1 V1 HR
          generalize W1.drewN nq = W2 at V2 ⊢
          go_wp2
          (try simp only [Exit.inBlock, Exit.then]); refine bodyPost_ret (results_none rfl _ _ _) rfl ?_
          exact ⟨rfl, by rw [HSD.out]; exact V2.out⟩
    · have d1 : decide ((hi : Int) ≤ (c1 : Int)) = true := by simp; omega
      have d1n : decide (hi ≤ c1) = true := by simp; omega
      have HE := hid (show siftDown ltN hi F lo d = dk by rw [← HK.out.2.2]; exact sd_end dk (by omega))
      clear hlt hr hk1 hc1
      go_wp2
      go_end0
      exact ⟨rfl, by rw [HE.out]; exact HK.out.2.1⟩
theorem hb_next (hi F k : Nat) (d : Array Nat) : heapBuild ltN hi F (k + 1) d = heapBuild ltN hi F k (siftDown ltN hi F k d) := by rw [heapBuild]
theorem hb_end (hi F : Nat) (d : Array Nat) : heapBuild ltN hi F 0 d = d := by rw [heapBuild]
theorem hp_next (F k : Nat) (d : Array Nat) : heapPop ltN F (k + 1) d = heapPop ltN F k (siftDown ltN k F 0 (swp d F (F + k))) := by rw [heapPop]
theorem hp_end (F : Nat) (d : Array Nat) : heapPop ltN F 0 d = d := by rw [heapPop]
theorem sift_size (hi F : Nat) : ∀ (m r : Nat) (d : Array Nat), hi - r ≤ m → (siftDown ltN hi F r d).size = d.size := by
  intro m
  induction m with
  | zero => intro r d h; rw [sd_end d (by omega)]
  | succ m ih =>
    intro r d h
    by_cases h1 : 2 * r + 1 < hi
    · by_cases h2 : 2 * r + 2 < hi ∧ ltN d[F + (2 * r + 1)]! d[F + (2 * r + 2)]! = true
      · rw [sd_right d h2.1 h2.2]
        split
        · rw [ih _ _ (by omega), swp_size']
        · rfl
      · rw [sd_left d h1 (fun h3 => by
          cases hl : ltN d[F + (2 * r + 1)]! d[F + (2 * r + 2)]! with
          | true => exact absurd ⟨h3, hl⟩ h2
          | false => rfl)]
        split
        · rw [ih _ _ (by omega), swp_size']
        · rfl
    · rw [sd_end d h1]
set_option maxRecDepth 100000 in
set_option maxHeartbeats 2000000 in
theorem heap_any (b c a z n : Nat) (d : Array Nat) (sp : Array Value) (W : World) (h : At W b (cel d sp) 23) (hn : d.size = n) (haz : a < z) (hz : z ≤ n) (hs : n ≤ 1000000) :
    Calls Tryd.prog 128 #[.slice (some ⟨b, 0, none⟩) n c, .int .i64 (a : Int), .int .i64 (z : Int)] W fun e w' => e = .returned (.tuple #[]) ∧ Sw W b sp (heapSort ltN d a z) w' := by
  obtain ⟨o, ho⟩ : ∃ o, o = 0 := ⟨_, rfl⟩
  have HO := hid ho
  have HST := hid (Sw.start h)
  have HN := hid hn
  obtain ⟨m, hm⟩ : ∃ m, m = z - a := ⟨_, rfl⟩
  have e1 : (z : Int) - (a : Int) = (m : Int) := by omega
  have ew1 : IntKind.i64.wrap (m : Int) = (m : Int) := by rw [IntKind.wrap_i64] <;> omega
  obtain ⟨m1, hm1⟩ : ∃ k, k = m - 1 := ⟨_, rfl⟩
  have e2 : (m : Int) - 1 = (m1 : Int) := by omega
  have ew2 : IntKind.i64.wrap (m1 : Int) = (m1 : Int) := by rw [IntKind.wrap_i64] <;> omega
  obtain ⟨hf, hhf⟩ : ∃ k, k = m1 / 2 := ⟨_, rfl⟩
  have e3 : (m1 : Int).tdiv 2 = (hf : Int) := by rw [hhf]; exact (Int.ofNat_tdiv m1 2).symm
  have ew3 : IntKind.i64.wrap (hf : Int) = (hf : Int) := by rw [IntKind.wrap_i64] <;> omega
  have HB := hid (show 0 < m ∧ a + m = z ∧ z ≤ n ∧ n ≤ 1000000 ∧ hf < m ∧ m1 + 1 = m by omega)
  have HSP := hid (show heapSort ltN d a z = heapPop ltN a m (heapBuild ltN m a (hf + 1) d) by rw [heapSort, ← hm, ← hm1, ← hhf])
  have HSF := hid (fun (V : World) (dk : Array Nat) (k hi : Nat) (hd : dk.size = n) (hx : Sw W b sp dk V) (hk : k ≤ hi) (hh : a + hi ≤ n) => sift_any b c k hi a n dk sp V hx.at_ hd hk hh hs)
  rw [← ho] at HSF ⊢
  clear h hn haz hz hs hm hm1 hhf ho
  go_enter Tryd.func128, Tryd.ntmps128
  go_wp2
  go_loopw [9] (fun v wr => ∃ (k : Nat) (dk : Array Nat), v = .int .i64 ((k : Int) - 1) ∧ k ≤ hf + 1 ∧ Hid (dk.size = n ∧ Sw W b sp dk wr ∧ heapBuild ltN m a k dk = heapBuild ltN m a (hf + 1) d)) (fun v _ => (intOf v + 1).toNat)
  case atStart => exact ⟨hf + 1, d, by congr 1; omega, Nat.le_refl _, hid ⟨HN.out, HST.out, rfl⟩⟩
  case round =>
    obtain ⟨k, dk, rfl, hk, HK⟩ := hrel
    by_cases hp : 0 < k
    · obtain ⟨i, hi⟩ : ∃ i, k = i + 1 := ⟨k - 1, by omega⟩
      subst hi
      have e4 : ((i + 1 : Nat) : Int) - 1 = (i : Int) := by omega
      rw [e4]
      have d1 : decide ((0 : Int) ≤ (i : Int)) = true := by simp
      obtain ⟨j, hj⟩ : ∃ j : Int, j = (i : Int) - 1 := ⟨_, rfl⟩
      have e5 : (i : Int) - 1 = j := hj.symm
      have ew5 : IntKind.i64.wrap j = j := by rw [IntKind.wrap_i64] <;> have := HB.out <;> omega
      have HC := hid (HSF.out wr dk i m HK.out.1 HK.out.2.1 (by have := HB.out; omega) (by have := HB.out; omega))
      have HNX := hid (show (siftDown ltN m a i dk).size = n ∧ heapBuild ltN m a i (siftDown ltN m a i dk) = heapBuild ltN m a (hf + 1) d from ⟨by rw [sift_size m a m i dk (by omega)]; exact HK.out.1, by rw [← HK.out.2.2, hb_next]⟩)
      have HM := hid (show i ≤ hf + 1 ∧ (j + 1).toNat < ((i : Int) + 1).toNat by omega)
      have HJ := hid hj
      clear hp hk hj
      go_wp2_with (first
        | (go_at_call 138; refine HC.out.mono ?_; rintro r1 w1 ⟨rfl, hw1⟩; have S1 := hid (HK.out.2.1.next hw1); clear hw1))
      exact ⟨⟨i, siftDown ltN m a i dk, by rw [HJ.out], HM.out.1, hid ⟨HNX.out.1, S1.out, HNX.out.2⟩⟩, HM.out.2⟩
    · obtain rfl : k = 0 := by omega
      have d1 : decide ((0 : Int) ≤ ((0 : Nat) : Int) - 1) = false := by decide
      have HD := hid (show heapSort ltN d a z = heapPop ltN a m dk by rw [HSP.out, ← HK.out.2.2, hb_end])
      clear hp hk
      have e4 : ((0 : Nat) : Int) - 1 = -1 := by decide
      rw [e4]
      go_wp2
      go_loopw [10] (fun v wr2 => ∃ (k : Nat) (dj : Array Nat), v = .int .i64 ((k : Int) - 1) ∧ k ≤ m ∧ Hid (dj.size = n ∧ Sw W b sp dj wr2 ∧ heapPop ltN a k dj = heapSort ltN d a z)) (fun v _ => (intOf v + 1).toNat)
      case atStart => exact ⟨m, dk, by congr 1; have := HB.out; omega, Nat.le_refl _, hid ⟨HK.out.1, HK.out.2.1, HD.out.symm⟩⟩
      case round =>
        obtain ⟨k, dj, rfl, hk, HJ⟩ := hrel
        by_cases hp : 0 < k
        · obtain ⟨i, hi⟩ : ∃ i, k = i + 1 := ⟨k - 1, by omega⟩
          subst hi
          have e5 : ((i + 1 : Nat) : Int) - 1 = (i : Int) := by omega
          rw [e5]
          have d1 : decide ((0 : Int) ≤ (i : Int)) = true := by simp
          obtain ⟨j, hj⟩ : ∃ j : Int, j = (i : Int) - 1 := ⟨_, rfl⟩
          have e6 : (i : Int) - 1 = j := hj.symm
          have ew6 : IntKind.i64.wrap j = j := by rw [IntKind.wrap_i64] <;> have := HB.out <;> omega
          obtain ⟨q1, hq1⟩ : ∃ q, q = a + i := ⟨_, rfl⟩
          have e7 : (a : Int) + (i : Int) = (q1 : Int) := by omega
          have ew7 : IntKind.i64.wrap (q1 : Int) = (q1 : Int) := by rw [IntKind.wrap_i64] <;> have := HB.out <;> omega
          have h0 : a < dj.size := by have := HB.out; have := HJ.out.1; omega
          have h1 : q1 < dj.size := by have := HB.out; have := HJ.out.1; omega
          have ik0 : (a : Int) < (n : Int) := by have := HB.out; omega
          have ik1 : (q1 : Int) < (n : Int) := by have := HB.out; omega
          have hpk := Sw.pack HO.out h0 h1 wr HJ.out.2.1
          have HNX := hid (show heapPop ltN a i (siftDown ltN i a 0 (swp dj a q1)) = heapSort ltN d a z ∧ (siftDown ltN i a 0 (swp dj a q1)).size = n from ⟨by rw [← HJ.out.2.2, hp_next, hq1], by rw [sift_size i a i 0 _ (by omega), swp_size']; exact HJ.out.1⟩)
          have HSZ := hid (show (swp dj a q1).size = n by rw [swp_size']; exact HJ.out.1)
          obtain ⟨x0, hx0⟩ : ∃ x, x = dj[a]! := ⟨_, rfl⟩
          obtain ⟨x1, hx1⟩ : ∃ x, x = dj[q1]! := ⟨_, rfl⟩
          obtain ⟨p0, hp0⟩ : ∃ x, x = o + a := ⟨_, rfl⟩
          obtain ⟨p1, hp1⟩ : ∃ x, x = o + q1 := ⟨_, rfl⟩
          rw [← hx0, ← hx1, ← hp0, ← hp1] at hpk
          have ep0 := hp0.symm
          have ep1 := hp1.symm
          have HC := hid (fun (V : World) (hx : Sw W b sp (swp dj a q1) V) => HSF.out V (swp dj a q1) 0 i HSZ.out hx (Nat.zero_le _) (by have := HB.out; omega))
          obtain ⟨c0, c1, f0, f1, hsw⟩ := hpk
          have HSW := hid hsw
          have HM := hid (show i ≤ m ∧ (j + 1).toNat < ((i : Int) + 1).toNat by omega)
          have HJ2 := hid hj
          by_cases hz0 : i = 0
          · have hpp : p1 = p0 := by omega
            have hqq : q1 = a := by omega
            subst hpp
            subst hqq
            have hxx : x1 = x0 := by rw [hx0, hx1]
            subst hxx
            clear hsw hx0 hx1 hp0 hp1 hq1 h0 h1 hj hp hk HJ hz0
            go_wp2
            go_region
            clear c0 c1 f0 f1
            go_wp2_with (first
              | (go_at_call 138; refine (HC.out _ HSW.out).mono ?_; rintro r1 w1 ⟨rfl, hw1⟩; have S1 := hid (HSW.out.next hw1); clear hw1))
            exact ⟨⟨i, _, by rw [HJ2.out], HM.out.1, hid ⟨HNX.out.2, S1.out, HNX.out.1⟩⟩, HM.out.2⟩
          · have hne : ¬ p0 = p1 := by omega
            have hne' : ¬ p1 = p0 := by omega
            clear hsw hx0 hx1 hp0 hp1 hq1 h0 h1 hj hp hk HJ hz0
            go_wp2
            go_region
            clear c0 c1 f0 f1 hne hne'
            go_wp2_with (first
              | (go_at_call 138; refine (HC.out _ HSW.out).mono ?_; rintro r1 w1 ⟨rfl, hw1⟩; have S1 := hid (HSW.out.next hw1); clear hw1))
            exact ⟨⟨i, _, by rw [HJ2.out], HM.out.1, hid ⟨HNX.out.2, S1.out, HNX.out.1⟩⟩, HM.out.2⟩
        · obtain rfl : k = 0 := by omega
          have e5 : ((0 : Nat) : Int) - 1 = -1 := by decide
          rw [e5]
          have HE := hid (show heapSort ltN d a z = dj by rw [← HJ.out.2.2, hp_end])
          clear hp hk
          go_wp2
          go_end0
          exact ⟨rfl, by rw [HE.out]; exact HJ.out.2.1⟩
end Go.Proofs.YtdegmcfcbndelaaDoor
