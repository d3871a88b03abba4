/-
  Layer 13, the program's side: Right.
-/
import Derived.Test.YtfmbpdjcoopaeaaDoorM9
import Derived.Test.YtfmbpdjcoopaeaaDoorY1
namespace Go.Proofs.YtfmbpdjcoopaeaaDoor
open Go.RowKit

/-- Sealed blocks of one epoch, as the program asks. -/
theorem oneE_ps {l : List Sl13} (h : l ≠ []) : oneE l = (rightB 0 (l.headD (0, [], [])).1 && l.all fun x => decide (x.1 = (l.headD (0, [], [])).1)) := by
  rw [Bool.eq_iff_iff]
  unfold oneE
  rw [Bool.and_eq_true, List.all_eq_true, List.all_eq_true]
  constructor
  · intro hh
    refine ⟨?_, fun x hx => (Bool.and_eq_true _ _ ▸ hh x hx : _ ∧ _).2⟩
    cases l with
    | nil => exact absurd rfl h
    | cons x l => exact (Bool.and_eq_true _ _ ▸ hh x (by simp) : _ ∧ _).1
  · rintro ⟨h1, h2⟩ x hx
    rw [Bool.and_eq_true]
    refine ⟨?_, h2 x hx⟩
    have := of_decide_eq_true (h2 x hx)
    rw [this]
    exact h1
theorem rightB_low {i e : Nat} (h : i < 256 ^ 4) : rightB i e = rightB 0 e := by
  unfold rightB
  rw [decide_eq_true (show i ≤ 4294967295 by omega), decide_eq_true (show 0 ≤ 4294967295 by omega)]
/-- What an order is, kind by kind. -/
theorem rgtO_one (l : List Nat) (s : List Sl13) (b : Nat) : rgtO ⟨1, l, s, b⟩ = (rgtB 32 l && ((decide (s.length = l.length) && oneE s) && decide (b = 0))) := by
  have e : rgtO ⟨1, l, s, b⟩ = (true && decide (b = 0) && rgtB 32 l && (oneE s && decide (s.length = l.length))) := by
    unfold rgtO
    rw [if_neg (by show ¬ (1 : Int) = 3; decide), if_neg (by show ¬ (1 : Int) = 2; decide)]
    rfl
  rw [e]
  cases rgtB 32 l <;> cases oneE s <;> cases decide (s.length = l.length) <;> cases decide (b = 0) <;> rfl
theorem rgtO_two (l : List Nat) (s : List Sl13) (b : Nat) : rgtO ⟨2, l, s, b⟩ = (rgtB 32 l && (decide (s.length = 0) && decide (b = 0))) := by
  have e : rgtO ⟨2, l, s, b⟩ = (true && decide (b = 0) && rgtB 32 l && decide (s = [])) := by
    unfold rgtO
    rw [if_neg (by show ¬ (2 : Int) = 3; decide), if_pos rfl]
    rfl
  have h1 : decide (s = []) = decide (s.length = 0) := by cases s <;> simp
  rw [e, h1]
  cases rgtB 32 l <;> cases decide (s.length = 0) <;> cases decide (b = 0) <;> rfl
theorem rgtO_three (l : List Nat) (s : List Sl13) (b : Nat) : rgtO ⟨3, l, s, b⟩ = (decide (l.length = 0) && (decide (s.length = 0) && (decide (1 ≤ b) && decide (b ≤ 4294967296)))) := by
  have e : rgtO ⟨3, l, s, b⟩ = (decide (l = []) && decide (s = []) && decide (1 ≤ b) && decide (b ≤ 4294967296)) := by
    unfold rgtO
    rw [if_pos rfl]
    rfl
  have h1 : decide (s = []) = decide (s.length = 0) := by cases s <;> simp
  have h2 : decide (l = []) = decide (l.length = 0) := by cases l <;> simp
  rw [e, h1, h2]
  cases decide (l.length = 0) <;> cases decide (s.length = 0) <;> cases decide (1 ≤ b) <;> cases decide (b ≤ 4294967296) <;> rfl
theorem rgtO_none (k : Int) (l : List Nat) (s : List Sl13) (b : Nat) (h1 : k ≠ 1) (h2 : k ≠ 2) (h3 : k ≠ 3) : rgtO ⟨k, l, s, b⟩ = false := by
  unfold rgtO
  rw [if_neg h3]
  simp only
  rw [decide_eq_false h1, decide_eq_false h2]
  rfl
/-- What areSealed's region yields: lengths that differ; a place that isn't one; one that is. -/
def arN (AI AS : Option Addr) (n m cI cS : Nat) : Nat → Value
  | 0 => .slice AS m cS
  | 1 => .int .i64 (m : Int)
  | 2 => .slice AI n cI
  | 3 => .int .i64 (n : Int)
  | 4 => .bool false
  | 5 => .bool false
  | 14 => .bool false
  | 15 => .bool false
  | 22 => .bool false
  | 23 => .bool false
  | _ => undef
def arF (AI AS : Option Addr) (n cI cS g q h r x e : Nat) : Nat → Value
  | 0 => .slice AS n cS
  | 1 => .int .i64 (n : Int)
  | 2 => .slice AI n cI
  | 3 => .int .i64 (n : Int)
  | 4 => .bool true
  | 5 => .bool true
  | 6 => .slice AI n cI
  | 7 => .pointer (some ⟨g, q, none⟩)
  | 8 => .int .u64 (x : Int)
  | 9 => .slice AS n cS
  | 10 => .pointer (some ⟨h, r, none⟩)
  | 11 => .pointer (some ⟨h, r, none⟩)
  | 12 => .int .u64 (e : Int)
  | 13 => .bool false
  | 14 => .bool false
  | 15 => .bool false
  | 22 => .bool false
  | 23 => .bool false
  | _ => undef
def arT (AI AS : Option Addr) (n cI cS g q h r x e : Nat) (sb : Bool) : Nat → Value
  | 0 => .slice AS n cS
  | 1 => .int .i64 (n : Int)
  | 2 => .slice AI n cI
  | 3 => .int .i64 (n : Int)
  | 4 => .bool true
  | 5 => .bool true
  | 6 => .slice AI n cI
  | 7 => .pointer (some ⟨g, q, none⟩)
  | 8 => .int .u64 (x : Int)
  | 9 => .slice AS n cS
  | 10 => .pointer (some ⟨h, r, none⟩)
  | 11 => .pointer (some ⟨h, r, none⟩)
  | 12 => .int .u64 (e : Int)
  | 13 => .bool true
  | 14 => .bool true
  | 15 => .bool true
  | 16 => .slice AS n cS
  | 17 => .slice AS n cS
  | 18 => .pointer (some ⟨h, r, none⟩)
  | 19 => .pointer (some ⟨h, r, none⟩)
  | 20 => .int .u64 (e : Int)
  | _ => .bool sb
set_option maxRecDepth 100000 in
set_option maxHeartbeats 2000000 in
/-- areSealed, of a list of indices. -/
theorem paresealed_any (l : List Nat) (s : List Sl13) (AI AS : Option Addr) (cI cS : Nat) (W : World) (hi : Nu W W.heap.size AI l) (hs : Ss W W.heap.size AS s) (hk : ∀ x ∈ s, okS x) (hr : rgtB 32 l = true) (hl : s.length ≤ 1000000) :
    Calls Tryd.prog 116 #[.slice AS s.length cS, .slice AI l.length cI] W fun r W' => r = .returned (.bool (decide (s.length = l.length) && oneE s)) ∧ Below W.heap.size W W' := by
  obtain ⟨b1, b2, b3⟩ := rgtB_small hr
  by_cases hlen : s.length = l.length
  · have h0 : 0 < l.length := b2
    have h1 : 0 < s.length := by omega
    have hne : s ≠ [] := by intro e; rw [e] at h1; exact Nat.lt_irrefl _ h1
    obtain ⟨g, q, rfl, -, -⟩ := hi.at h0
    obtain ⟨h, r, rfl, -, -⟩ := hs.at hk h1
    obtain ⟨x, hx⟩ : ∃ x, x = l[0] := ⟨_, rfl⟩
    obtain ⟨y, hy⟩ : ∃ y, y = s[0] := ⟨_, rfl⟩
    have hyk : okS y := by rw [hy]; exact hk _ (List.getElem_mem _)
    have HCI := hid (fun (V : World) (hb : Below W.heap.size W V) => show V.cell? ⟨g, q, none⟩ = some (.int .u64 (x : Int)) from by
      have := hi.below hb
      obtain ⟨g', q', e, -, c⟩ := Nu.at this h0
      cases e
      rw [hx]
      exact c)
    have HCS := hid (fun (V : World) (hb : Below W.heap.size W V) => show V.cell? ⟨h, r, none⟩ = some (.int .u64 (y.1 : Int)) from by
      have := hs.below hb
      obtain ⟨g', q', e, -, c⟩ := Ss.at this hk h1
      cases e
      rw [hy]
      exact sl_epoch c)
    have hhd : s.headD (0, [], []) = y := by
      rw [hy]
      cases s with
      | nil => exact absurd rfl hne
      | cons z s => rfl
    have HRI := hid (fun V => pright_any x y.1 V hyk.1)
    rw [rightB_low (show x < 256 ^ 4 from b1 x (by rw [hx]; exact List.getElem_mem _))] at HRI
    have HSE := hid (fun (V : World) (hb : Below W.heap.size W V) => psealedin_any s y.1 (some ⟨h, r, none⟩) cS V hk hl (hs.later hb))
    rw [oneE_ps hne, hhd, hlen, decide_eq_true (rfl : l.length = l.length), Bool.true_and]
    rw [hlen] at HSE
    obtain ⟨n, hn⟩ : ∃ n, n = l.length := ⟨_, rfl⟩
    rw [← hn] at HSE ⊢ h0
    have ip : (0 : Int) < (n : Int) := by omega
    have eqn : decide ((n : Int) = (n : Int)) = true := by simp
    have eqb : ((n : Int) == (n : Int)) = true := by simp
    obtain ⟨e, he⟩ : ∃ e, e = y.1 := ⟨_, rfl⟩
    rw [← he] at HCS HRI HSE ⊢
    generalize (s.all fun x => decide (x.1 = e)) = sb at HSE ⊢
    generalize rightB 0 e = rb at HRI ⊢
    clear hi hs hk hr hl b1 b2 b3 hlen h1 hne hx hy hyk hhd hn he
    cases rb with
    | false =>
      go_enter Tryd.func116, Tryd.ntmps116
      go_upto_region 1 with fail
      try simp only [Act.put, List.setIfInBounds_toArray, List.set_cons_succ, List.set_cons_zero]
      refine wp_region_facts 24 24 [5, 6, 7, 8, 9, 10, 11, 12, 13, 14, 15, 16, 17, 18, 19, 20, 21, 22, 23, 24, 25, 26, 27, 4] (fun k v _ => v = arF (some ⟨g, q, none⟩) (some ⟨h, r, none⟩) n cI cS g q h r x e k) (Below W.heap.size W) (by kernel_rfl) (by kernel_rfl)
        (fun W W' h hb => h.trans (hb.mono h.size)) (fun _ _ _ _ h _ => h) ((Below.refl _ _).drew) ?_ ?_
      · intro i hi vals W K hB hn hK
        simp only [frm_cons, frm_nil, List.set_cons_succ, List.set_cons_zero, Nat.reduceAdd] at hK ⊢
        rcases (by omega : i = 0 ∨ i = 1 ∨ i = 2 ∨ i = 3 ∨ i = 4 ∨ i = 5 ∨ i = 6 ∨ i = 7 ∨ i = 8 ∨ i = 9 ∨ i = 10 ∨ i = 11 ∨ i = 12 ∨ i = 13 ∨ i = 14 ∨ i = 15 ∨ i = 16 ∨ i = 17 ∨ i = 18 ∨ i = 19 ∨ i = 20 ∨ i = 21 ∨ i = 22 ∨ i = 23) with rfl | rfl | rfl | rfl | rfl | rfl | rfl | rfl | rfl | rfl | rfl | rfl | rfl | rfl | rfl | rfl | rfl | rfl | rfl | rfl | rfl | rfl | rfl | rfl
        · refine wpOp_plain rfl rfl (wp_val (w' := W) (v := .slice (some ⟨h, r, none⟩) n cS) (by go_simp) ?_)
          exact hK _ _ rfl (Below.refl _ _)
        · have h0 := hn 0 (by decide +kernel)
          simp only [arF] at h0
          simp only [h0] at hK ⊢
          refine wpOp_plain rfl rfl (wp_val (w' := W) (v := .int .i64 (n : Int)) (by go_simp) ?_)
          exact hK _ _ rfl (Below.refl _ _)
        · refine wpOp_plain rfl rfl (wp_val (w' := W) (v := .slice (some ⟨g, q, none⟩) n cI) (by go_simp) ?_)
          exact hK _ _ rfl (Below.refl _ _)
        · have h2 := hn 2 (by decide +kernel)
          simp only [arF] at h2
          simp only [h2] at hK ⊢
          refine wpOp_plain rfl rfl (wp_val (w' := W) (v := .int .i64 (n : Int)) (by go_simp) ?_)
          exact hK _ _ rfl (Below.refl _ _)
        · have h1 := hn 1 (by decide +kernel)
          have h3 := hn 3 (by decide +kernel)
          simp only [arF] at h1 h3
          simp only [h1, h3] at hK ⊢
          refine wpOp_plain rfl rfl (wp_val (w' := W) (v := .bool true) (by go_simp) ?_)
          exact hK _ _ rfl (Below.refl _ _)
        · have h4 := hn 4 (by decide +kernel)
          simp only [arF] at h4
          simp only [h4] at hK ⊢
          refine wpOp_plain rfl rfl (wp_val (w' := W) (v := .bool true) (by go_simp) ?_)
          exact hK _ _ rfl (Below.refl _ _)
        · have h5 := hn 5 (by decide +kernel)
          simp only [arF] at h5
          simp only [h5] at hK ⊢
          refine wpOp_on rfl (by rfl) (wp_val (w' := W) (v := .slice (some ⟨g, q, none⟩) n cI) (by go_simp) ?_)
          exact hK _ _ rfl (Below.refl _ _)
        · have h5 := hn 5 (by decide +kernel)
          have h6 := hn 6 (by decide +kernel)
          simp only [arF] at h5 h6
          simp only [h5, h6] at hK ⊢
          refine wpOp_on rfl (by rfl) (wp_val (w' := W) (v := .pointer (some ⟨g, q, none⟩)) (by go_simp) ?_)
          exact hK _ _ rfl (Below.refl _ _)
        · have h5 := hn 5 (by decide +kernel)
          have h7 := hn 7 (by decide +kernel)
          simp only [arF] at h5 h7
          simp only [h5, h7] at hK ⊢
          have q0 := HCI.out W hB
          refine wpOp_on rfl (by rfl) (wp_val (w' := W) (v := .int .u64 (x : Int)) (by go_simp) ?_)
          exact hK _ _ rfl (Below.refl _ _)
        · have h5 := hn 5 (by decide +kernel)
          simp only [arF] at h5
          simp only [h5] at hK ⊢
          refine wpOp_on rfl (by rfl) (wp_val (w' := W) (v := .slice (some ⟨h, r, none⟩) n cS) (by go_simp) ?_)
          exact hK _ _ rfl (Below.refl _ _)
        · have h5 := hn 5 (by decide +kernel)
          have h9 := hn 9 (by decide +kernel)
          simp only [arF] at h5 h9
          simp only [h5, h9] at hK ⊢
          refine wpOp_on rfl (by rfl) (wp_val (w' := W) (v := .pointer (some ⟨h, r, none⟩)) (by go_simp) ?_)
          exact hK _ _ rfl (Below.refl _ _)
        · have h5 := hn 5 (by decide +kernel)
          have h10 := hn 10 (by decide +kernel)
          simp only [arF] at h5 h10
          simp only [h5, h10] at hK ⊢
          refine wpOp_on rfl (by rfl) (wp_val (w' := W) (v := .pointer (some ⟨h, r, none⟩)) (by go_simp) ?_)
          exact hK _ _ rfl (Below.refl _ _)
        · have h5 := hn 5 (by decide +kernel)
          have h11 := hn 11 (by decide +kernel)
          simp only [arF] at h5 h11
          simp only [h5, h11] at hK ⊢
          have q0 := HCS.out W hB
          refine wpOp_on rfl (by rfl) (wp_val (w' := W) (v := .int .u64 (e : Int)) (by go_simp) ?_)
          exact hK _ _ rfl (Below.refl _ _)
        · have h5 := hn 5 (by decide +kernel)
          have h8 := hn 8 (by decide +kernel)
          have h12 := hn 12 (by decide +kernel)
          simp only [arF] at h5 h8 h12
          simp only [h5, h8, h12] at hK ⊢
          refine wpOp_on rfl (by rfl) ?_
          go_simp
          go_at_call 21
          refine (HRI.out W).mono ?_
          rintro e1 W' ⟨rfl, rfl⟩
          exact hK _ _ rfl (Below.refl _ _)
        · have h5 := hn 5 (by decide +kernel)
          have h13 := hn 13 (by decide +kernel)
          simp only [arF] at h5 h13
          simp only [h5, h13] at hK ⊢
          refine wpOp_plain rfl rfl (wp_val (w' := W) (v := .bool false) (by go_simp) ?_)
          exact hK _ _ rfl (Below.refl _ _)
        · have h14 := hn 14 (by decide +kernel)
          simp only [arF] at h14
          simp only [h14] at hK ⊢
          refine wpOp_plain rfl rfl (wp_val (w' := W) (v := .bool false) (by go_simp) ?_)
          exact hK _ _ rfl (Below.refl _ _)
        · have h15 := hn 15 (by decide +kernel)
          simp only [arF] at h15
          simp only [h15] at hK ⊢
          refine wpOp_off rfl (by rfl) ?_
          exact hK _ _ rfl (Below.refl _ _)
        · have h15 := hn 15 (by decide +kernel)
          simp only [arF] at h15
          simp only [h15] at hK ⊢
          refine wpOp_off rfl (by rfl) ?_
          exact hK _ _ rfl (Below.refl _ _)
        · have h15 := hn 15 (by decide +kernel)
          simp only [arF] at h15
          simp only [h15] at hK ⊢
          refine wpOp_off rfl (by rfl) ?_
          exact hK _ _ rfl (Below.refl _ _)
        · have h15 := hn 15 (by decide +kernel)
          simp only [arF] at h15
          simp only [h15] at hK ⊢
          refine wpOp_off rfl (by rfl) ?_
          exact hK _ _ rfl (Below.refl _ _)
        · have h15 := hn 15 (by decide +kernel)
          simp only [arF] at h15
          simp only [h15] at hK ⊢
          refine wpOp_off rfl (by rfl) ?_
          exact hK _ _ rfl (Below.refl _ _)
        · have h15 := hn 15 (by decide +kernel)
          simp only [arF] at h15
          simp only [h15] at hK ⊢
          refine wpOp_off rfl (by rfl) ?_
          exact hK _ _ rfl (Below.refl _ _)
        · have h15 := hn 15 (by decide +kernel)
          simp only [arF] at h15
          simp only [h15] at hK ⊢
          refine wpOp_plain rfl rfl (wp_val (w' := W) (v := .bool false) (by go_simp) ?_)
          exact hK _ _ rfl (Below.refl _ _)
        · have h22 := hn 22 (by decide +kernel)
          simp only [arF] at h22
          simp only [h22] at hK ⊢
          refine wpOp_plain rfl rfl (wp_val (w' := W) (v := .bool false) (by go_simp) ?_)
          exact hK _ _ rfl (Below.refl _ _)
      · intro vals W hB hF
        have h23 := hF 23 (by omega)
        simp only [arF] at h23
        simp only [frm_cons, frm_nil, List.set_cons_succ, List.set_cons_zero, Nat.reduceAdd, h23]
        refine wpUpto_done (by decide +kernel) ?_ _
        have HB := hid hB
        clear hB hF h23
        go_simp
        go_wp2
        go_ret
        exact ⟨rfl, HB.out⟩
    | true =>
      go_enter Tryd.func116, Tryd.ntmps116
      go_upto_region 1 with fail
      try simp only [Act.put, List.setIfInBounds_toArray, List.set_cons_succ, List.set_cons_zero]
      refine wp_region_facts 24 24 [5, 6, 7, 8, 9, 10, 11, 12, 13, 14, 15, 16, 17, 18, 19, 20, 21, 22, 23, 24, 25, 26, 27, 4] (fun k v _ => v = arT (some ⟨g, q, none⟩) (some ⟨h, r, none⟩) n cI cS g q h r x e sb k) (Below W.heap.size W) (by kernel_rfl) (by kernel_rfl)
        (fun W W' h hb => h.trans (hb.mono h.size)) (fun _ _ _ _ h _ => h) ((Below.refl _ _).drew) ?_ ?_
      · intro i hi vals W K hB hn hK
        simp only [frm_cons, frm_nil, List.set_cons_succ, List.set_cons_zero, Nat.reduceAdd] at hK ⊢
        rcases (by omega : i = 0 ∨ i = 1 ∨ i = 2 ∨ i = 3 ∨ i = 4 ∨ i = 5 ∨ i = 6 ∨ i = 7 ∨ i = 8 ∨ i = 9 ∨ i = 10 ∨ i = 11 ∨ i = 12 ∨ i = 13 ∨ i = 14 ∨ i = 15 ∨ i = 16 ∨ i = 17 ∨ i = 18 ∨ i = 19 ∨ i = 20 ∨ i = 21 ∨ i = 22 ∨ i = 23) with rfl | rfl | rfl | rfl | rfl | rfl | rfl | rfl | rfl | rfl | rfl | rfl | rfl | rfl | rfl | rfl | rfl | rfl | rfl | rfl | rfl | rfl | rfl | rfl
        · refine wpOp_plain rfl rfl (wp_val (w' := W) (v := .slice (some ⟨h, r, none⟩) n cS) (by go_simp) ?_)
          exact hK _ _ rfl (Below.refl _ _)
        · have h0 := hn 0 (by decide +kernel)
          simp only [arT] at h0
          simp only [h0] at hK ⊢
          refine wpOp_plain rfl rfl (wp_val (w' := W) (v := .int .i64 (n : Int)) (by go_simp) ?_)
          exact hK _ _ rfl (Below.refl _ _)
        · refine wpOp_plain rfl rfl (wp_val (w' := W) (v := .slice (some ⟨g, q, none⟩) n cI) (by go_simp) ?_)
          exact hK _ _ rfl (Below.refl _ _)
        · have h2 := hn 2 (by decide +kernel)
          simp only [arT] at h2
          simp only [h2] at hK ⊢
          refine wpOp_plain rfl rfl (wp_val (w' := W) (v := .int .i64 (n : Int)) (by go_simp) ?_)
          exact hK _ _ rfl (Below.refl _ _)
        · have h1 := hn 1 (by decide +kernel)
          have h3 := hn 3 (by decide +kernel)
          simp only [arT] at h1 h3
          simp only [h1, h3] at hK ⊢
          refine wpOp_plain rfl rfl (wp_val (w' := W) (v := .bool true) (by go_simp) ?_)
          exact hK _ _ rfl (Below.refl _ _)
        · have h4 := hn 4 (by decide +kernel)
          simp only [arT] at h4
          simp only [h4] at hK ⊢
          refine wpOp_plain rfl rfl (wp_val (w' := W) (v := .bool true) (by go_simp) ?_)
          exact hK _ _ rfl (Below.refl _ _)
        · have h5 := hn 5 (by decide +kernel)
          simp only [arT] at h5
          simp only [h5] at hK ⊢
          refine wpOp_on rfl (by rfl) (wp_val (w' := W) (v := .slice (some ⟨g, q, none⟩) n cI) (by go_simp) ?_)
          exact hK _ _ rfl (Below.refl _ _)
        · have h5 := hn 5 (by decide +kernel)
          have h6 := hn 6 (by decide +kernel)
          simp only [arT] at h5 h6
          simp only [h5, h6] at hK ⊢
          refine wpOp_on rfl (by rfl) (wp_val (w' := W) (v := .pointer (some ⟨g, q, none⟩)) (by go_simp) ?_)
          exact hK _ _ rfl (Below.refl _ _)
        · have h5 := hn 5 (by decide +kernel)
          have h7 := hn 7 (by decide +kernel)
          simp only [arT] at h5 h7
          simp only [h5, h7] at hK ⊢
          have q0 := HCI.out W hB
          refine wpOp_on rfl (by rfl) (wp_val (w' := W) (v := .int .u64 (x : Int)) (by go_simp) ?_)
          exact hK _ _ rfl (Below.refl _ _)
        · have h5 := hn 5 (by decide +kernel)
          simp only [arT] at h5
          simp only [h5] at hK ⊢
          refine wpOp_on rfl (by rfl) (wp_val (w' := W) (v := .slice (some ⟨h, r, none⟩) n cS) (by go_simp) ?_)
          exact hK _ _ rfl (Below.refl _ _)
        · have h5 := hn 5 (by decide +kernel)
          have h9 := hn 9 (by decide +kernel)
          simp only [arT] at h5 h9
          simp only [h5, h9] at hK ⊢
          refine wpOp_on rfl (by rfl) (wp_val (w' := W) (v := .pointer (some ⟨h, r, none⟩)) (by go_simp) ?_)
          exact hK _ _ rfl (Below.refl _ _)
        · have h5 := hn 5 (by decide +kernel)
          have h10 := hn 10 (by decide +kernel)
          simp only [arT] at h5 h10
          simp only [h5, h10] at hK ⊢
          refine wpOp_on rfl (by rfl) (wp_val (w' := W) (v := .pointer (some ⟨h, r, none⟩)) (by go_simp) ?_)
          exact hK _ _ rfl (Below.refl _ _)
        · have h5 := hn 5 (by decide +kernel)
          have h11 := hn 11 (by decide +kernel)
          simp only [arT] at h5 h11
          simp only [h5, h11] at hK ⊢
          have q0 := HCS.out W hB
          refine wpOp_on rfl (by rfl) (wp_val (w' := W) (v := .int .u64 (e : Int)) (by go_simp) ?_)
          exact hK _ _ rfl (Below.refl _ _)
        · have h5 := hn 5 (by decide +kernel)
          have h8 := hn 8 (by decide +kernel)
          have h12 := hn 12 (by decide +kernel)
          simp only [arT] at h5 h8 h12
          simp only [h5, h8, h12] at hK ⊢
          refine wpOp_on rfl (by rfl) ?_
          go_simp
          go_at_call 21
          refine (HRI.out W).mono ?_
          rintro e1 W' ⟨rfl, rfl⟩
          exact hK _ _ rfl (Below.refl _ _)
        · have h5 := hn 5 (by decide +kernel)
          have h13 := hn 13 (by decide +kernel)
          simp only [arT] at h5 h13
          simp only [h5, h13] at hK ⊢
          refine wpOp_plain rfl rfl (wp_val (w' := W) (v := .bool true) (by go_simp) ?_)
          exact hK _ _ rfl (Below.refl _ _)
        · have h14 := hn 14 (by decide +kernel)
          simp only [arT] at h14
          simp only [h14] at hK ⊢
          refine wpOp_plain rfl rfl (wp_val (w' := W) (v := .bool true) (by go_simp) ?_)
          exact hK _ _ rfl (Below.refl _ _)
        · have h15 := hn 15 (by decide +kernel)
          simp only [arT] at h15
          simp only [h15] at hK ⊢
          refine wpOp_on rfl (by rfl) (wp_val (w' := W) (v := .slice (some ⟨h, r, none⟩) n cS) (by go_simp) ?_)
          exact hK _ _ rfl (Below.refl _ _)
        · have h15 := hn 15 (by decide +kernel)
          simp only [arT] at h15
          simp only [h15] at hK ⊢
          refine wpOp_on rfl (by rfl) (wp_val (w' := W) (v := .slice (some ⟨h, r, none⟩) n cS) (by go_simp) ?_)
          exact hK _ _ rfl (Below.refl _ _)
        · have h15 := hn 15 (by decide +kernel)
          have h17 := hn 17 (by decide +kernel)
          simp only [arT] at h15 h17
          simp only [h15, h17] at hK ⊢
          refine wpOp_on rfl (by rfl) (wp_val (w' := W) (v := .pointer (some ⟨h, r, none⟩)) (by go_simp) ?_)
          exact hK _ _ rfl (Below.refl _ _)
        · have h15 := hn 15 (by decide +kernel)
          have h18 := hn 18 (by decide +kernel)
          simp only [arT] at h15 h18
          simp only [h15, h18] at hK ⊢
          refine wpOp_on rfl (by rfl) (wp_val (w' := W) (v := .pointer (some ⟨h, r, none⟩)) (by go_simp) ?_)
          exact hK _ _ rfl (Below.refl _ _)
        · have h15 := hn 15 (by decide +kernel)
          have h19 := hn 19 (by decide +kernel)
          simp only [arT] at h15 h19
          simp only [h15, h19] at hK ⊢
          have q0 := HCS.out W hB
          refine wpOp_on rfl (by rfl) (wp_val (w' := W) (v := .int .u64 (e : Int)) (by go_simp) ?_)
          exact hK _ _ rfl (Below.refl _ _)
        · have h15 := hn 15 (by decide +kernel)
          have h16 := hn 16 (by decide +kernel)
          have h20 := hn 20 (by decide +kernel)
          simp only [arT] at h15 h16 h20
          simp only [h15, h16, h20] at hK ⊢
          refine wpOp_on rfl (by rfl) ?_
          go_simp
          go_at_call 163
          refine (HSE.out W hB).mono ?_
          rintro e1 W' ⟨rfl, hb⟩
          exact hK _ _ rfl hb
        · have h15 := hn 15 (by decide +kernel)
          have h21 := hn 21 (by decide +kernel)
          simp only [arT] at h15 h21
          simp only [h15, h21] at hK ⊢
          refine wpOp_plain rfl rfl (wp_val (w' := W) (v := .bool sb) (by go_simp) ?_)
          exact hK _ _ rfl (Below.refl _ _)
        · have h22 := hn 22 (by decide +kernel)
          simp only [arT] at h22
          simp only [h22] at hK ⊢
          refine wpOp_plain rfl rfl (wp_val (w' := W) (v := .bool sb) (by go_simp) ?_)
          exact hK _ _ rfl (Below.refl _ _)
      · intro vals W hB hF
        have h23 := hF 23 (by omega)
        simp only [arT] at h23
        simp only [frm_cons, frm_nil, List.set_cons_succ, List.set_cons_zero, Nat.reduceAdd, h23]
        refine wpUpto_done (by decide +kernel) ?_ _
        have HB := hid hB
        clear hB hF h23
        go_simp
        go_wp2
        go_ret
        exact ⟨rfl, HB.out⟩
  · rw [decide_eq_false hlen, Bool.false_and]
    obtain ⟨n, hn⟩ : ∃ n, n = l.length := ⟨_, rfl⟩
    obtain ⟨m, hm⟩ : ∃ n, n = s.length := ⟨_, rfl⟩
    rw [← hn, ← hm] at hlen ⊢
    have eqn : decide ((m : Int) = (n : Int)) = false := by simp; omega
    have eqb : ((m : Int) == (n : Int)) = false := by simp; omega
    have eqc : decide (m = n) = false := by simp; omega
    have eqd : (m == n) = false := by simp; omega
    clear hi hs hk hr hl b1 b2 b3 hlen hn hm
    go_enter Tryd.func116, Tryd.ntmps116
    go_upto_region 1 with fail
    try simp only [Act.put, List.setIfInBounds_toArray, List.set_cons_succ, List.set_cons_zero]
    refine wp_region_facts 24 24 [5, 6, 7, 8, 9, 10, 11, 12, 13, 14, 15, 16, 17, 18, 19, 20, 21, 22, 23, 24, 25, 26, 27, 4] (fun k v _ => v = arN AI AS n m cI cS k) (Below W.heap.size W) (by kernel_rfl) (by kernel_rfl)
      (fun W W' h hb => h.trans (hb.mono h.size)) (fun _ _ _ _ h _ => h) ((Below.refl _ _).drew) ?_ ?_
    · intro i hi vals W K hB hn hK
      simp only [frm_cons, frm_nil, List.set_cons_succ, List.set_cons_zero, Nat.reduceAdd] at hK ⊢
      rcases (by omega : i = 0 ∨ i = 1 ∨ i = 2 ∨ i = 3 ∨ i = 4 ∨ i = 5 ∨ i = 6 ∨ i = 7 ∨ i = 8 ∨ i = 9 ∨ i = 10 ∨ i = 11 ∨ i = 12 ∨ i = 13 ∨ i = 14 ∨ i = 15 ∨ i = 16 ∨ i = 17 ∨ i = 18 ∨ i = 19 ∨ i = 20 ∨ i = 21 ∨ i = 22 ∨ i = 23) with rfl | rfl | rfl | rfl | rfl | rfl | rfl | rfl | rfl | rfl | rfl | rfl | rfl | rfl | rfl | rfl | rfl | rfl | rfl | rfl | rfl | rfl | rfl | rfl
      · refine wpOp_plain rfl rfl (wp_val (w' := W) (v := .slice AS m cS) (by go_simp) ?_)
        exact hK _ _ rfl (Below.refl _ _)
      · have h0 := hn 0 (by decide +kernel)
        simp only [arN] at h0
        simp only [h0] at hK ⊢
        refine wpOp_plain rfl rfl (wp_val (w' := W) (v := .int .i64 (m : Int)) (by go_simp) ?_)
        exact hK _ _ rfl (Below.refl _ _)
      · refine wpOp_plain rfl rfl (wp_val (w' := W) (v := .slice AI n cI) (by go_simp) ?_)
        exact hK _ _ rfl (Below.refl _ _)
      · have h2 := hn 2 (by decide +kernel)
        simp only [arN] at h2
        simp only [h2] at hK ⊢
        refine wpOp_plain rfl rfl (wp_val (w' := W) (v := .int .i64 (n : Int)) (by go_simp) ?_)
        exact hK _ _ rfl (Below.refl _ _)
      · have h1 := hn 1 (by decide +kernel)
        have h3 := hn 3 (by decide +kernel)
        simp only [arN] at h1 h3
        simp only [h1, h3] at hK ⊢
        refine wpOp_plain rfl rfl (wp_val (w' := W) (v := .bool false) (by go_simp) ?_)
        exact hK _ _ rfl (Below.refl _ _)
      · have h4 := hn 4 (by decide +kernel)
        simp only [arN] at h4
        simp only [h4] at hK ⊢
        refine wpOp_plain rfl rfl (wp_val (w' := W) (v := .bool false) (by go_simp) ?_)
        exact hK _ _ rfl (Below.refl _ _)
      · have h5 := hn 5 (by decide +kernel)
        simp only [arN] at h5
        simp only [h5] at hK ⊢
        refine wpOp_off rfl (by rfl) ?_
        exact hK _ _ rfl (Below.refl _ _)
      · have h5 := hn 5 (by decide +kernel)
        simp only [arN] at h5
        simp only [h5] at hK ⊢
        refine wpOp_off rfl (by rfl) ?_
        exact hK _ _ rfl (Below.refl _ _)
      · have h5 := hn 5 (by decide +kernel)
        simp only [arN] at h5
        simp only [h5] at hK ⊢
        refine wpOp_off rfl (by rfl) ?_
        exact hK _ _ rfl (Below.refl _ _)
      · have h5 := hn 5 (by decide +kernel)
        simp only [arN] at h5
        simp only [h5] at hK ⊢
        refine wpOp_off rfl (by rfl) ?_
        exact hK _ _ rfl (Below.refl _ _)
      · have h5 := hn 5 (by decide +kernel)
        simp only [arN] at h5
        simp only [h5] at hK ⊢
        refine wpOp_off rfl (by rfl) ?_
        exact hK _ _ rfl (Below.refl _ _)
      · have h5 := hn 5 (by decide +kernel)
        simp only [arN] at h5
        simp only [h5] at hK ⊢
        refine wpOp_off rfl (by rfl) ?_
        exact hK _ _ rfl (Below.refl _ _)
      · have h5 := hn 5 (by decide +kernel)
        simp only [arN] at h5
        simp only [h5] at hK ⊢
        refine wpOp_off rfl (by rfl) ?_
        exact hK _ _ rfl (Below.refl _ _)
      · have h5 := hn 5 (by decide +kernel)
        simp only [arN] at h5
        simp only [h5] at hK ⊢
        refine wpOp_off rfl (by rfl) ?_
        exact hK _ _ rfl (Below.refl _ _)
      · have h5 := hn 5 (by decide +kernel)
        simp only [arN] at h5
        simp only [h5] at hK ⊢
        refine wpOp_plain rfl rfl (wp_val (w' := W) (v := .bool false) (by go_simp) ?_)
        exact hK _ _ rfl (Below.refl _ _)
      · have h14 := hn 14 (by decide +kernel)
        simp only [arN] at h14
        simp only [h14] at hK ⊢
        refine wpOp_plain rfl rfl (wp_val (w' := W) (v := .bool false) (by go_simp) ?_)
        exact hK _ _ rfl (Below.refl _ _)
      · have h15 := hn 15 (by decide +kernel)
        simp only [arN] at h15
        simp only [h15] at hK ⊢
        refine wpOp_off rfl (by rfl) ?_
        exact hK _ _ rfl (Below.refl _ _)
      · have h15 := hn 15 (by decide +kernel)
        simp only [arN] at h15
        simp only [h15] at hK ⊢
        refine wpOp_off rfl (by rfl) ?_
        exact hK _ _ rfl (Below.refl _ _)
      · have h15 := hn 15 (by decide +kernel)
        simp only [arN] at h15
        simp only [h15] at hK ⊢
        refine wpOp_off rfl (by rfl) ?_
        exact hK _ _ rfl (Below.refl _ _)
      · have h15 := hn 15 (by decide +kernel)
        simp only [arN] at h15
        simp only [h15] at hK ⊢
        refine wpOp_off rfl (by rfl) ?_
        exact hK _ _ rfl (Below.refl _ _)
      · have h15 := hn 15 (by decide +kernel)
        simp only [arN] at h15
        simp only [h15] at hK ⊢
        refine wpOp_off rfl (by rfl) ?_
        exact hK _ _ rfl (Below.refl _ _)
      · have h15 := hn 15 (by decide +kernel)
        simp only [arN] at h15
        simp only [h15] at hK ⊢
        refine wpOp_off rfl (by rfl) ?_
        exact hK _ _ rfl (Below.refl _ _)
      · have h15 := hn 15 (by decide +kernel)
        simp only [arN] at h15
        simp only [h15] at hK ⊢
        refine wpOp_plain rfl rfl (wp_val (w' := W) (v := .bool false) (by go_simp) ?_)
        exact hK _ _ rfl (Below.refl _ _)
      · have h22 := hn 22 (by decide +kernel)
        simp only [arN] at h22
        simp only [h22] at hK ⊢
        refine wpOp_plain rfl rfl (wp_val (w' := W) (v := .bool false) (by go_simp) ?_)
        exact hK _ _ rfl (Below.refl _ _)
    · intro vals W hB hF
      have h23 := hF 23 (by omega)
      simp only [arN] at h23
      simp only [frm_cons, frm_nil, List.set_cons_succ, List.set_cons_zero, Nat.reduceAdd, h23]
      refine wpUpto_done (by decide +kernel) ?_ _
      have HB := hid hB
      clear hB hF h23
      go_simp
      go_wp2
      go_ret
      exact ⟨rfl, HB.out⟩
set_option maxRecDepth 100000 in
set_option maxHeartbeats 20000000 in
/-- Right. -/
theorem rgtC_any (w : World) : RgtC w := by
  intro o AI AS cI cS V hb hk hm hl
  obtain ⟨kd, l, s, b⟩ := o
  simp only at hl
  obtain ⟨O, hO⟩ : ∃ O, O = ordV ⟨kd, l, s, b⟩ AI AS cI cS := ⟨_, rfl⟩
  obtain ⟨n, hn⟩ : ∃ n, n = l.length := ⟨_, rfl⟩
  obtain ⟨m, hn2⟩ : ∃ n, n = s.length := ⟨_, rfl⟩
  have HC := hid (fun (U : World) (x : At U V.heap.size O.toArray 93) => show U.cell? ⟨V.heap.size, 0, none⟩ = some (.int .i64 kd) ∧ U.cell? ⟨V.heap.size, 1, none⟩ = some (.slice AI n cI) ∧ U.cell? ⟨V.heap.size, 2, none⟩ = some (.slice AS m cS) ∧ U.cell? ⟨V.heap.size, 3, none⟩ = some (.int .u64 (b : Int)) from by
    rw [hO] at x
    rw [hn, hn2]
    exact ordV_cells x)
  rw [← hO]
  have K0 := hid (show Below V.heap.size V (V.alloc (.cells O.toArray 93)) ∧ At (V.alloc (.cells O.toArray 93)) V.heap.size O.toArray 93 from ⟨(Below.refl _ _).alloc (Nat.le_refl _) _, At.new _ _ _⟩)
  obtain ⟨c0, c1, c2, c3⟩ := HC.out _ K0.out.2
  have HIL := hid (fun (U : World) (x : Below V.heap.size V U) => pislist_any l AI cI U (hm.later x).i)
  have HAR := hid (fun (U : World) (x : Below V.heap.size V U) (hr : rgtB 32 l = true) => paresealed_any l s AI AS cI cS U (hm.later x).i (hm.later x).s hk.2.1 hr hl)
  by_cases k1 : kd = 1
  · subst k1
    rw [rgtO_one]
    have eb : ((b : Int) == 0) = decide (b = 0) := by cases b <;> rfl
    rw [← hn] at HIL HAR ⊢
    rw [← hn2] at HAR ⊢
    cases hr : rgtB 32 l with
    | false =>
      rw [hr] at HIL
      clear hO hb hk hm hl hn hn2 hr HAR
      go_enter Tryd.func53, Tryd.ntmps53
      go_wp2_with (first
        | (go_at_call 115; refine (HIL.out _ K0.out.1).mono ?_; rintro r1 w1 ⟨rfl, h1⟩; have K1 := hid (And.intro (K0.out.1.trans (h1.mono K0.out.1.size)) (K0.out.2.new_ h1)); clear h1 c0 c1 c2 c3; obtain ⟨c0, c1, c2, c3⟩ := HC.out _ K1.out.2))
      go_ret
      exact ⟨rfl, K1.out.1⟩
    | true =>
      have HAR2 := hid (fun (U : World) (x : Below V.heap.size V U) => HAR.out U x hr)
      rw [hr] at HIL
      generalize (decide (m = n) && oneE s) = ab at HAR2 ⊢
      clear hO hb hk hm hl hn hn2 hr HAR
      cases ab with
      | false =>
        go_enter Tryd.func53, Tryd.ntmps53
        go_wp2_with (first
          | (go_at_call 115; refine (HIL.out _ K0.out.1).mono ?_; rintro r1 w1 ⟨rfl, h1⟩; have K1 := hid (And.intro (K0.out.1.trans (h1.mono K0.out.1.size)) (K0.out.2.new_ h1)); clear h1 c0 c1 c2 c3; obtain ⟨c0, c1, c2, c3⟩ := HC.out _ K1.out.2)
          | (go_at_call 116; refine (HAR2.out _ K1.out.1).mono ?_; rintro r2 w2 ⟨rfl, h2⟩; have K2 := hid (And.intro (K1.out.1.trans (h2.mono K1.out.1.size)) (K1.out.2.new_ h2)); clear h2 c0 c1 c2 c3; obtain ⟨c0, c1, c2, c3⟩ := HC.out _ K2.out.2))
        go_ret
        exact ⟨rfl, K2.out.1⟩
      | true =>
        go_enter Tryd.func53, Tryd.ntmps53
        go_wp2_with (first
          | (go_at_call 115; refine (HIL.out _ K0.out.1).mono ?_; rintro r1 w1 ⟨rfl, h1⟩; have K1 := hid (And.intro (K0.out.1.trans (h1.mono K0.out.1.size)) (K0.out.2.new_ h1)); clear h1 c0 c1 c2 c3; obtain ⟨c0, c1, c2, c3⟩ := HC.out _ K1.out.2)
          | (go_at_call 116; refine (HAR2.out _ K1.out.1).mono ?_; rintro r2 w2 ⟨rfl, h2⟩; have K2 := hid (And.intro (K1.out.1.trans (h2.mono K1.out.1.size)) (K1.out.2.new_ h2)); clear h2 c0 c1 c2 c3; obtain ⟨c0, c1, c2, c3⟩ := HC.out _ K2.out.2))
        go_ret
        exact ⟨by rw [← eb]; rfl, K2.out.1⟩
  · by_cases k2 : kd = 2
    · subst k2
      rw [rgtO_two]
      have eb : ((b : Int) == 0) = decide (b = 0) := by cases b <;> rfl
      have es : ((s.length : Int) == 0) = decide (s.length = 0) := by cases s.length <;> rfl
      rw [← hn] at HIL
      rw [← hn2] at es ⊢
      generalize rgtB 32 l = rb at HIL ⊢
      have HES := hid es
      obtain ⟨sb, hsb⟩ : ∃ x, x = decide (m = 0) := ⟨_, rfl⟩
      rw [← hsb] at es HES ⊢
      clear hO hb hk hm hl hn hn2 HAR hsb
      cases rb <;> cases sb <;> (
        go_enter Tryd.func53, Tryd.ntmps53
        go_wp2_with (first
          | (go_at_call 115; refine (HIL.out _ K0.out.1).mono ?_; rintro r1 w1 ⟨rfl, h1⟩; have K1 := hid (And.intro (K0.out.1.trans (h1.mono K0.out.1.size)) (K0.out.2.new_ h1)); clear h1 c0 c1 c2 c3; obtain ⟨c0, c1, c2, c3⟩ := HC.out _ K1.out.2))
        go_ret
        exact ⟨by try rw [← eb]; try rfl, K1.out.1⟩)
    · by_cases k3 : kd = 3
      · subst k3
        rw [rgtO_three]
        have en : ((l.length : Int) == 0) = decide (l.length = 0) := by cases l.length <;> rfl
        have es : ((s.length : Int) == 0) = decide (s.length = 0) := by cases s.length <;> rfl
        have e1 : decide ((1 : Int) ≤ (b : Int)) = decide (1 ≤ b) := by simp [Int.ofNat_le.symm]
        have e2 : decide ((b : Int) ≤ 4294967296) = decide (b ≤ 4294967296) := by simp [Int.ofNat_le.symm]
        rw [← hn] at en ⊢
        rw [← hn2] at es ⊢
        generalize decide (n = 0) = x0 at en ⊢
        generalize decide (m = 0) = x1 at es ⊢
        generalize decide (1 ≤ b) = x2 at e1 ⊢
        generalize decide (b ≤ 4294967296) = x3 at e2 ⊢
        clear hO hb hk hm hl hn hn2 HAR HIL
        cases x0 <;> cases x1 <;> cases x2 <;> (
          go_enter Tryd.func53, Tryd.ntmps53
          go_wp2
          go_ret
          exact ⟨rfl, K0.out.1⟩)
      · rw [rgtO_none kd l s b k1 k2 k3]
        have g1 : (kd == 1) = false := by simp [k1]
        have g2 : (kd == 2) = false := by simp [k2]
        have g3 : (kd == 3) = false := by simp [k3]
        have g1d : decide (kd = 1) = false := by simp [k1]
        have g2d : decide (kd = 2) = false := by simp [k2]
        have g3d : decide (kd = 3) = false := by simp [k3]
        clear hO hb hk hm hl HAR HIL k1 k2 k3
        go_enter Tryd.func53, Tryd.ntmps53
        go_wp2
        go_ret
        exact ⟨rfl, K0.out.1⟩
end Go.Proofs.YtfmbpdjcoopaeaaDoor
