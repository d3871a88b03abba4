/-
  The document's long multiplication in base 65536.
-/
import Derived.Test.YtobehmjmmnmflaaDoorCn
namespace Go.Proofs.YtobehmjmmnmflaaDoor
open Go.RowKit

/-- Numbers of 64 bits as cells. -/
def u6 (n : Nat) : Value := .int .u64 (n : Int)
def u6s (l : List Nat) : List Value := l.map u6
theorem u6s_length (l : List Nat) : (u6s l).length = l.length := by simp [u6s]
theorem u6s_one (l : List Nat) : ∀ u ∈ u6s l, u.oneCell' = true := by
  intro u hu
  obtain ⟨b, _, rfl⟩ := List.mem_map.1 hu
  rfl
theorem u6s_append (a b : List Nat) : u6s (a ++ b) = u6s a ++ u6s b := by simp [u6s]
theorem u6s_at {l : List Nat} {i : Nat} (h : i < l.length) : (u6s l)[i]? = some (.int .u64 ((l.getD i 0 : Nat) : Int)) := by simp [u6s, u6, h]
/-- The number of a list of digits, the lowest first. -/
def valL : List Nat → Nat
  | [] => 0
  | d :: ds => d + 65536 * valL ds
theorem valL_nil : valL [] = 0 := rfl
theorem valL_cons (d : Nat) (ds : List Nat) : valL (d :: ds) = d + 65536 * valL ds := rfl
theorem valL_snoc (l : List Nat) (d : Nat) : valL (l ++ [d]) = valL l + 65536 ^ l.length * d := by
  induction l with
  | nil => simp [valL]
  | cons x xs ih =>
    rw [List.cons_append, valL_cons, valL_cons, ih, List.length_cons, Nat.pow_succ, Nat.mul_add, Nat.add_assoc]
    congr 2
    rw [← Nat.mul_assoc, Nat.mul_comm 65536]
theorem valL_take (l : List Nat) (i : Nat) (h : i < l.length) : valL (l.take (i + 1)) = valL (l.take i) + 65536 ^ i * l.getD i 0 := by
  rw [List.take_succ_eq_append_getElem h, valL_snoc, List.length_take, Nat.min_eq_left (Nat.le_of_lt h)]
  simp [h]
theorem digit_step (V P n : Nat) : V + P * (n % 65536) + P * 65536 * (n / 65536) = V + P * n := by
  rw [Nat.mul_assoc, Nat.add_assoc, ← Nat.mul_add, Nat.mod_add_div]
/-- One more digit, from the list or from nought. -/
theorem times_step (out l : List Nat) (x c i m : Nat) (ho : out.length = i) (h : valL out + 65536 ^ i * c = valL (l.take i) * x) (hm : m = l.getD i 0 * x) : valL (out ++ [(c + m) % 65536]) + 65536 ^ (i + 1) * ((c + m) / 65536) = valL (l.take (i + 1)) * x := by
  rw [valL_snoc, ho, Nat.pow_succ, digit_step, Nat.mul_add, ← Nat.add_assoc, h]
  rcases Nat.lt_or_ge i l.length with hi | hi
  · rw [valL_take l i hi, Nat.add_mul, Nat.mul_assoc, hm]
  · have hg : l.getD i 0 = 0 := by simp [List.getElem?_eq_none hi]
    rw [hm, hg, List.take_of_length_le (show l.length ≤ i + 1 by omega), List.take_of_length_le (show l.length ≤ i from hi)]
    simp
attribute [irreducible] valL
/-- What the multiplication has behind i rounds. -/
structure TmW (w : World) (l : List Nat) (x i c : Nat) (out : List Nat) (v : Value) (W : World) : Prop where
  own : W.ownsRow w.heap.size 52 1 v i (u6s out)
  len : out.length = i
  dig : ∀ d ∈ out, d < 65536
  val : valL out + 65536 ^ i * c = valL (l.take i) * x
  below : Below w.heap.size w W
theorem TmW.start (w : World) (l : List Nat) (x : Nat) : TmW w l x 0 0 [] (.slice none 0 0) w :=
  ⟨World.ownsRow_nil _ _ _ _, rfl, fun d h => by simp at h, by rw [List.take_zero, valL_nil]; simp, Below.refl _ _⟩
theorem TmW.next {w W W2 : World} {l : List Nat} {x i c m : Nat} {out : List Nat} {v v2 : Value} {o : Obj} (h : TmW w l x i c out v W) (hm : m = l.getD i 0 * x) (h2 : W2.ownsRow w.heap.size 52 1 v2 (i + 1) (u6s out ++ u6s [(c + m) % 65536])) (hg : (W.alloc o).grownBy W2 v.ownBlock) :
    TmW w l x (i + 1) ((c + m) / 65536) (out ++ [(c + m) % 65536]) v2 W2 :=
  ⟨by rw [u6s_append]; exact h2, by rw [List.length_append, h.len]; rfl, fun d hd => by
    rcases List.mem_append.1 hd with h1 | h1
    · exact h.dig d h1
    · rw [List.mem_singleton.1 h1]
      exact Nat.mod_lt _ (by omega), times_step out l x c i m h.len h.val hm, (h.below.alloc h.below.size o).grown hg (by have := h.below.size; simp; omega) (fun k hk => (World.ownsRow.lt h.own k hk).1)⟩
theorem rd_u6 (w : World) (n : Nat) : Rd (w.alloc (.cells #[.int .u64 (n : Int)] 52)) (w.heap.size + 1) (some ⟨w.heap.size, 0, none⟩) (u6s [n]) :=
  Rd.of_at (At.new w #[.int .u64 (n : Int)] 52) 0 (fun j u hj => by
    rcases j with _ | j
    · simp [u6s, u6] at hj; subst hj; rfl
    · simp [u6s] at hj) (by omega)
theorem info64 : (Tryd.prog.info? 52).map (fun i => (i.zero, i.size, i.bytes)) = some (some (.int .u64 0), 1, 8) := by kernel_rfl
set_option maxRecDepth 100000 in
set_option maxHeartbeats 1000000 in
theorem times_any (l : List Nat) (x : Nat) (A : Option Addr) (c : Nat) (w : World) (hr : Rd w w.heap.size A (u6s l)) (hd : ∀ d ∈ l, d < 65536) (hx : x ≤ 1099511627776) (hl : l.length ≤ 8796093022208) :
    Calls Tryd.prog 41 #[.slice A l.length c, .int .u64 (x : Int)] w fun e w' => ∃ v out n, e = .returned v ∧ n = out.length ∧ w'.ownsRow w.heap.size 52 1 v n (u6s out) ∧ Below w.heap.size w w' ∧ (∀ d ∈ out, d < 65536) ∧ valL out = valL l * x ∧ n ≤ l.length + 2199023255552 := by
  obtain ⟨i0, hi, hz0, hz1, hz2⟩ := info_parts info64
  obtain ⟨n, hn⟩ : ∃ n, n = l.length := ⟨_, rfl⟩
  have HN := hid hn
  have HR := hid hr
  have HD := hid hd
  rw [← hn] at hl ⊢
  clear hr hd hn
  go_enter Tryd.func41, Tryd.ntmps41
  go_wp2
  go_loopw [5, 6, 7] (fun vo vc vi wr => ∃ (i q : Nat) (out : List Nat) (A5 : Option Addr) (c5 : Nat), vi = .int .i64 i ∧ vc = .int .u64 q ∧ vo = .slice A5 i c5 ∧ TmW w l x i q out (.slice A5 i c5) wr ∧ q ≤ 2199023255552 ∧ (i - n) + q ≤ 2199023255552) (fun _ vc vi _ => (n - (intOf vi).toNat) * 4611686018427387904 + (intOf vc).toNat)
  case atStart => exact ⟨0, 0, [], none, 0, rfl, rfl, rfl, TmW.start w l x, by omega, by omega⟩
  case round =>
    obtain ⟨i, q, out, A5, c5, rfl, rfl, rfl, hW, hq, hiq⟩ := hrel
    have HW := hid hW
    clear hW
    by_cases hlt : i < n
    · have hil : i < l.length := by rw [← HN.out]; exact hlt
      obtain ⟨b, o, rfl, -, hc⟩ := ((HR.out.below HW.out.below).mono HW.out.below.size).at_ (u6s_at hil)
      have hdi : l.getD i 0 < 65536 := HD.out _ (by simp [hil])
      obtain ⟨m, hm⟩ : ∃ m, m = l.getD i 0 * x := ⟨_, rfl⟩
      have HM := hid hm
      obtain ⟨y, hy⟩ : ∃ y, y = l.getD i 0 := ⟨_, rfl⟩
      rw [← hy] at hc hdi hm
      have hmi : (y : Int) * (x : Int) = (m : Int) := by rw [hm]; push_cast; rfl
      have hmb : m ≤ 65535 * 1099511627776 := by rw [hm]; exact Nat.mul_le_mul (by omega) hx
      obtain ⟨d, hd⟩ : ∃ d, d = (q + m) % 65536 := ⟨_, rfl⟩
      obtain ⟨r, hr⟩ : ∃ r, r = (q + m) / 65536 := ⟨_, rfl⟩
      have hdI : ((q : Int) + (m : Int)).tmod 65536 = (d : Int) := by rw [Int.tmod_eq_emod_of_nonneg (by omega)]; omega
      have hrI : ((q : Int) + (m : Int)).tdiv 65536 = (r : Int) := by rw [Int.tdiv_eq_ediv_of_nonneg (by omega)]; omega
      have hrb : r ≤ 2199023255552 := by omega
      have HNX := hid (fun (W2 : World) (v2 : Value) (o : Obj) (h2 : W2.ownsRow w.heap.size 52 1 v2 (i + 1) (u6s out ++ u6s [d])) (hg : (wr.alloc o).grownBy W2 (Value.slice A5 i c5).ownBlock) => (by rw [hr, hd]; rw [hd] at h2; exact HW.out.next HM.out h2 hg : TmW w l x (i + 1) r (out ++ [d]) v2 W2))
      clear hm hy hd hr
      go_wp2_with (at_builtin; refine wpList_append_rd rfl (.tmp 32) (.tmp 35) _ rfl w.heap.size 52 i0 (.int .u64 0) 8 Tryd.underlying68 hi hz0 hz1 hz2 rfl (.slice A5 i c5) i (u6s out) rfl (HW.out.own.alloc _) (wr.heap.size + 1) (some ⟨wr.heap.size, 0, none⟩) 1 1 (u6s [d]) rfl rfl (rd_u6 wr d) (u6s_one _) (by unfold maxLen; omega) (by omega) (by have := HW.out.below.size; simp; omega) ?_; intro v4 w4 hown4 hgr4 _; (have hw4 := HNX.out w4 v4 _ hown4 hgr4); obtain ⟨A4, c4, rfl, -⟩ := own_form hw4.own; have W4 := hid hw4; clear hown4 hgr4 hw4)
      go_roundw
      case rel => exact ⟨i + 1, r, _, A4, c4, by go_num, rfl, rfl, W4.out, hrb, by omega⟩
      case measure => simp [intOf]; omega
    · by_cases hq0 : 0 < q
      · obtain ⟨d, hd⟩ : ∃ d, d = (q + 0) % 65536 := ⟨_, rfl⟩
        obtain ⟨r, hr⟩ : ∃ r, r = (q + 0) / 65536 := ⟨_, rfl⟩
        have hg : 0 = l.getD i 0 * x := by
          rw [show l.getD i 0 = 0 by simp [List.getElem?_eq_none (show l.length ≤ i by rw [← HN.out]; omega)]]
          simp
        have hdI : (q : Int).tmod 65536 = (d : Int) := by rw [Int.tmod_eq_emod_of_nonneg (by omega)]; omega
        have hrI : (q : Int).tdiv 65536 = (r : Int) := by rw [Int.tdiv_eq_ediv_of_nonneg (by omega)]; omega
        have hdE : (q : Int) % 65536 = (d : Int) := by omega
        have hrE : (q : Int) / 65536 = (r : Int) := by omega
        have hrb : r ≤ 2199023255552 := by omega
        have hrl : r < q := by omega
        have HNX := hid (fun (W2 : World) (v2 : Value) (o : Obj) (h2 : W2.ownsRow w.heap.size 52 1 v2 (i + 1) (u6s out ++ u6s [d])) (hg2 : (wr.alloc o).grownBy W2 (Value.slice A5 i c5).ownBlock) => (by rw [hr, hd]; rw [hd] at h2; exact HW.out.next hg h2 hg2 : TmW w l x (i + 1) r (out ++ [d]) v2 W2))
        clear hd hr hg
        go_wp2_with (at_builtin; refine wpList_append_rd rfl (.tmp 32) (.tmp 35) _ rfl w.heap.size 52 i0 (.int .u64 0) 8 Tryd.underlying68 hi hz0 hz1 hz2 rfl (.slice A5 i c5) i (u6s out) rfl (HW.out.own.alloc _) (wr.heap.size + 1) (some ⟨wr.heap.size, 0, none⟩) 1 1 (u6s [d]) rfl rfl (rd_u6 wr d) (u6s_one _) (by unfold maxLen; omega) (by omega) (by have := HW.out.below.size; simp; omega) ?_; intro v4 w4 hown4 hgr4 _; (have hw4 := HNX.out w4 v4 _ hown4 hgr4); obtain ⟨A4, c4, rfl, -⟩ := own_form hw4.own; have W4 := hid hw4; clear hown4 hgr4 hw4)
        go_roundw
        case rel => exact ⟨i + 1, r, _, A4, c4, by go_num, rfl, rfl, W4.out, hrb, by omega⟩
        case measure => simp [intOf]; omega
      · obtain rfl : q = 0 := by omega
        have HV := hid (show valL out = valL l * x by
          have := HW.out.val
          rw [Nat.mul_zero, Nat.add_zero, List.take_of_length_le (by rw [← HN.out]; omega)] at this
          exact this)
        go_wp2
        go_ret
        exact ⟨_, out, i, rfl, HW.out.len.symm, HW.out.own, HW.out.below, HW.out.dig, HV.out, by omega⟩
end Go.Proofs.YtobehmjmmnmflaaDoor
