/-
  What is written is read as it was: the statement's walk.
-/
import Derived.Test.YtmgdngpdgjdicaaSc
namespace Go.Proofs.Ytmgdngpdgjdicaa
open Go.RowKit

/-- An act's kind, by its remainder by 5. -/
def Act.u (a : Act) : Nat := (a.kind % 18446744073709551616).toNat
theorem Act.u_eq (a : Act) : IntKind.u64.wrap a.kind = (a.u : Int) := by
  rw [IntKind.wrap_u64]
  unfold Act.u
  omega
def Act.odd (a : Act) : Bool := a.n % 2 == 1
/-- It can be written, what it writes. -/
def Act.ok (m : Nat) (a : Act) : Prop := (a.u % m = 0 → ∃ s : Nat, a.size = s ∧ Sz s ∧ a.n < 256 ^ s) ∧ (a.u % m = 1 → a.bs.length ≤ 65535)
def Act.enc (m : Nat) (a : Act) : List UInt8 :=
  if a.u % m = 0 then be a.n a.size.toNat else if a.u % m = 1 then be a.bs.length 2 ++ a.bs else if a.u % m = 2 then a.bs else if a.u % m = 3 then hashOf a.bs else if a.u % m = 4 then flagB a.odd else []
/-- What a writer has behind some acts. -/
def Wrote (m : Nat) (w : World) (base p : Nat) (acts : List Act) : Prop :=
  ∃ k v bs, WI w base p k v bs ∧ (k ≠ 0 → bs = []) ∧ (k = 0 → (∀ a ∈ acts, a.ok m) ∧ bs = acts.flatMap (Act.enc m))

theorem enc_length (m : Nat) (a : Act) (h : a.ok m) : (a.enc m).length ≤ 40 + a.bs.length := by
  unfold Act.enc
  split
  · rename_i h0
    obtain ⟨s, hs, hz, _⟩ := h.1 h0
    rw [be_length, hs]
    rcases hz with rfl | rfl | rfl | rfl <;> (simp; omega)
  · split
    · simp [be_length]
    · split
      · omega
      · split
        · rw [hashOf_length]; omega
        · split
          · simp [flagB]; omega
          · simp
theorem flat_length (m : Nat) (acts : List Act) (h : ∀ a ∈ acts, a.ok m) : (acts.flatMap (Act.enc m)).length ≤ 40 * acts.length + total acts := by
  induction acts with
  | nil => simp
  | cons a r ih =>
    have h1 := enc_length m a (h a (by simp))
    have h2 := ih (fun x hx => h x (by simp [hx]))
    simp only [List.flatMap_cons, List.length_append, List.length_cons, total, List.map_cons, List.sum_cons] at h2 ⊢
    omega
theorem total_take (acts : List Act) (j : Nat) : total (acts.take j) ≤ total acts := by
  have : total acts = total (acts.take j) + total (acts.drop j) := by
    conv => lhs; rw [← List.take_append_drop j acts]
    simp only [total, List.map_append, List.sum_append]
  omega
theorem total_drop (acts : List Act) (j : Nat) : total (acts.drop j) ≤ total acts := by
  have : total acts = total (acts.take j) + total (acts.drop j) := by
    conv => lhs; rw [← List.take_append_drop j acts]
    simp only [total, List.map_append, List.sum_append]
  omega
theorem Wrote.len {m : Nat} {acts : List Act} {k : Nat} {bs : List UInt8} (h1 : k ≠ 0 → bs = []) (h2 : k = 0 → (∀ a ∈ acts, a.ok m) ∧ bs = acts.flatMap (Act.enc m)) (hn : acts.length ≤ 41) (ht : total acts ≤ 200000) : bs.length ≤ 201640 := by
  by_cases hk : k = 0
  · obtain ⟨h3, rfl⟩ := h2 hk
    have := flat_length m acts h3
    omega
  · rw [h1 hk]
    simp
/-- What a writing call leaves. -/
def Stepped (m : Nat) (base p : Nat) (acts : List Act) (w : World) (x : Value) (w' : World) : Prop := x = .pointer (some ⟨p, 0, none⟩) ∧ Wrote m w' base p acts ∧ Fr (fun g => base ≤ g) w w'
theorem Stepped.good {m : Nat} {w w' : World} {base p k : Nat} {acts : List Act} {a : Act} {v x : Value} {bs : List UInt8} (h : WI w base p k v bs) (h1 : k ≠ 0 → bs = []) (h2 : k = 0 → (∀ a ∈ acts, a.ok m) ∧ bs = acts.flatMap (Act.enc m))
    (hok : a.ok m) (ho : WOut base p k (wput k bs (a.enc m)) v w x w') : Stepped m base p (acts ++ [a]) w x w' := by
  obtain ⟨rfl, v', hi, hf, _⟩ := ho
  refine ⟨rfl, ⟨k, v', _, hi, fun hk => ?_, fun hk => ⟨?_, ?_⟩⟩, hf.mono (fun g _ hg => h.wt hg)⟩
  · rw [wput, if_neg hk, h1 hk]
  · intro b hb
    rcases List.mem_append.1 hb with hb | hb
    · exact (h2 hk).1 b hb
    · simp at hb
      subst hb
      exact hok
  · rw [wput, if_pos hk, (h2 hk).2]
    simp
theorem Stepped.err {m : Nat} {w w' : World} {base p k c : Nat} {acts : List Act} {v x : Value} {bs : List UInt8} (h : WI w base p k v bs) (hc : c ≠ 0)
    (ho : WOut base p (werr k c) [] v w x w') : Stepped m base p acts w x w' := by
  obtain ⟨rfl, v', hi, hf, _⟩ := ho
  refine ⟨rfl, ⟨_, v', _, hi, fun _ => rfl, fun hk => absurd hk ?_⟩, hf.mono (fun g _ hg => h.wt hg)⟩
  unfold werr
  split <;> omega
theorem Wrote.fr {m : Nat} {w w' : World} {base p : Nat} {acts : List Act} {S : Nat → Prop} (h : Wrote m w base p acts) (hf : Fr S w w') (hn : ∀ g, base ≤ g → ¬ S g) : Wrote m w' base p acts := by
  obtain ⟨k, v, bs, hi, h1, h2⟩ := h
  exact ⟨k, v, bs, hi.keep hf (fun g hg => hn g (hi.wt hg)), h1, h2⟩
section
variable {m : Nat} {w : World} {base p : Nat} {acts : List Act} {a : Act}
theorem write_num (h : Wrote m w base p acts) (hb : base ≤ w.heap.size) (hn : acts.length ≤ 41) (ht : total acts ≤ 200000) (hu : a.u % m = 0) (h64 : a.n < 18446744073709551616) :
    Calls Try.prog 9 #[.pointer (some ⟨p, 0, none⟩), .int .u64 a.n, .int .i64 a.size] w fun e w' => ∃ x, e = .returned x ∧ Stepped m base p (acts ++ [a]) w x w' := by
  obtain ⟨k, v, bs, hi, h1, h2⟩ := h
  have hl := Wrote.len h1 h2 hn ht
  by_cases hok : ∃ s : Nat, a.size = s ∧ Sz s ∧ a.n < 256 ^ s
  · have hk : a.ok m := ⟨fun _ => hok, fun h => by omega⟩
    have he : a.enc m = be a.n a.size.toNat := by rw [Act.enc, if_pos hu]
    obtain ⟨s, hs, hz, hf⟩ := hok
    rw [hs] at he ⊢
    refine (num_fit base p k v bs a.n s hz hf w hi hb (by omega)).mono fun e w' ⟨x, hx, ho⟩ => ⟨x, hx, ?_⟩
    exact Stepped.good hi h1 h2 hk (by rw [he]; exact ho)
  · refine (num_unfit base p k v bs a.n h64 a.size (fun s hz hs => ?_) w hi).mono fun e w' ⟨x, hx, ho⟩ => ⟨x, hx, Stepped.err hi (by decide) ho⟩
    rcases Nat.lt_or_ge a.n (256 ^ s) with hlt | hge
    · exact absurd ⟨s, hs, hz, hlt⟩ hok
    · exact hge
theorem write_bytes (h : Wrote m w base p acts) (hb : base ≤ w.heap.size) (hn : acts.length ≤ 41) (ht : total acts ≤ 200000) (hu : a.u % m = 1) (hA : Rb w base a.A a.bs) :
    Calls Try.prog 11 #[.pointer (some ⟨p, 0, none⟩), .slice a.A a.bs.length a.c] w fun e w' => ∃ x, e = .returned x ∧ Stepped m base p (acts ++ [a]) w x w' := by
  obtain ⟨k, v, bs, hi, h1, h2⟩ := h
  have hl := Wrote.len h1 h2 hn ht
  rcases Nat.lt_or_ge 65535 a.bs.length with hlt | hge
  · exact (bytes_large base p k v bs a.A a.bs.length a.c w hi hlt).mono fun e w' ⟨x, hx, ho⟩ => ⟨x, hx, Stepped.err hi (by decide) ho⟩
  · have hk : a.ok m := ⟨fun h => by omega, fun _ => hge⟩
    have he : a.enc m = be a.bs.length 2 ++ a.bs := by rw [Act.enc, if_neg (by omega), if_pos hu]
    exact (bytes_fit base p k base v bs a.bs a.A a.c w hi hA (fun g hg hw => by have := hi.wt hw; omega) hb (by omega) hge).mono fun e w' ⟨x, hx, ho⟩ => ⟨x, hx, Stepped.good hi h1 h2 hk (by rw [he]; exact ho)⟩
theorem write_raw (h : Wrote m w base p acts) (hb : base ≤ w.heap.size) (hn : acts.length ≤ 41) (ht : total acts ≤ 200000) (hu : a.u % m = 2) (hA : Rb w base a.A a.bs) (hs : a.bs.length ≤ 200000) :
    Calls Try.prog 13 #[.pointer (some ⟨p, 0, none⟩), .slice a.A a.bs.length a.c] w fun e w' => ∃ x, e = .returned x ∧ Stepped m base p (acts ++ [a]) w x w' := by
  obtain ⟨k, v, bs, hi, h1, h2⟩ := h
  have hl := Wrote.len h1 h2 hn ht
  have hk : a.ok m := ⟨fun h => by omega, fun h => by omega⟩
  have he : a.enc m = a.bs := by rw [Act.enc, if_neg (by omega), if_neg (by omega), if_pos hu]
  refine (raw_any base p k v bs a.bs a.A a.c w hi (hA.mono hb) hb (by omega)).mono fun e w' ⟨x, hx, ho⟩ => ⟨x, hx, Stepped.good hi h1 h2 hk (by rw [he]; exact ho)⟩
theorem write_hash (h : Wrote m w base p acts) (hb : base ≤ w.heap.size) (hn : acts.length ≤ 41) (ht : total acts ≤ 200000) (hu : a.u % m = 3) :
    Calls Try.prog 16 #[.pointer (some ⟨p, 0, none⟩), hv (hashOf a.bs)] w fun e w' => ∃ x, e = .returned x ∧ Stepped m base p (acts ++ [a]) w x w' := by
  obtain ⟨k, v, bs, hi, h1, h2⟩ := h
  have hl := Wrote.len h1 h2 hn ht
  have hk : a.ok m := ⟨fun h => by omega, fun h => by omega⟩
  have he : a.enc m = hashOf a.bs := by rw [Act.enc, if_neg (by omega), if_neg (by omega), if_neg (by omega), if_pos hu]
  refine (hash_any base p k v bs (hashOf a.bs) (hashOf_length _) w hi hb (by omega)).mono fun e w' ⟨x, hx, ho⟩ => ⟨x, hx, Stepped.good hi h1 h2 hk (by rw [he]; exact ho)⟩
theorem write_flag (h : Wrote m w base p acts) (hb : base ≤ w.heap.size) (hn : acts.length ≤ 41) (ht : total acts ≤ 200000) (hu : a.u % m = 4) :
    Calls Try.prog 17 #[.pointer (some ⟨p, 0, none⟩), .bool a.odd] w fun e w' => ∃ x, e = .returned x ∧ Stepped m base p (acts ++ [a]) w x w' := by
  obtain ⟨k, v, bs, hi, h1, h2⟩ := h
  have hl := Wrote.len h1 h2 hn ht
  have hk : a.ok m := ⟨fun h => by omega, fun h => by omega⟩
  have he : a.enc m = flagB a.odd := by rw [Act.enc, if_neg (by omega), if_neg (by omega), if_neg (by omega), if_neg (by omega), if_pos hu]
  refine (flag_any base p k v bs a.odd w hi hb (by omega)).mono fun e w' ⟨x, hx, ho⟩ => ⟨x, hx, Stepped.good hi h1 h2 hk (by rw [he]; exact ho)⟩
end
end Go.Proofs.Ytmgdngpdgjdicaa
