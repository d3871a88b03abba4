/-
  Where each root's test turns, and that the tables are what stands behind the point.
-/
import Derived.Test.YtobehmjmmnmflaaDoorFr
namespace Go.Proofs.YtobehmjmmnmflaaDoor
open Go.RowKit

def TC : List Nat := [5411319705, 6194414738, 7344290768, 8215976870, 9551921756, 10098905586, 11043570341, 11460697814, 12214315673, 13195500290, 13492127167, 14311783876, 14809980277, 15046980095, 15499789992, 16133124469, 16720292290, 16907126663, 17444216263, 17784676813, 17950125168, 18429019307, 18734950877, 19175934171, 19734090067, 20001703534, 20132865993, 20390182856, 20516441076, 20764397896, 21588763474, 21813078376, 22141143686, 22248366393, 22769593853, 22871018772, 23170020181, 23461497532, 23651862831, 23931792518, 24205322402, 24295138892, 24734567281, 24820601252, 24990902298, 25075189285, 25569408390, 26045227121, 26200031511, 26276752393, 26428864333, 26653801654, 26727943348, 27092625995, 27306805840, 27517677556, 27725365999, 27793908592, 27997534229, 28131656201, 28198240251, 28526537964, 28973835256, 29099129075]
def TS : List Nat := [6074001000, 7439101574, 9603838835, 11363415355, 14244795008, 15485724813, 17708603820, 18721328410]
def tc (i : Nat) : Nat := TC.getD i 0
def ts (i : Nat) : Nat := TS.getD i 0
def okC (p t : Nat) (k : BitVec 32) : Bool := decide (1 ≤ t) && (decide (t ≤ 34359738368) && (decide ((t - 1) * (t - 1) * (t - 1) / 18446744073709551616 < p * 4294967296) && (decide (p * 4294967296 ≤ t * t * t / 18446744073709551616) && decide ((t - 1) % 4294967296 = k.toNat))))
def okS (p t : Nat) (k : BitVec 32) : Bool := decide (1 ≤ t) && (decide (t ≤ 34359738368) && (decide ((t - 1) * (t - 1) / 18446744073709551616 < p) && (decide (p ≤ t * t / 18446744073709551616) && decide ((t - 1) % 4294967296 = k.toNat))))
theorem tc_all : ((List.range 64).all fun i => okC (PR.getD i 0) (tc i) (KT.getD i 0)) = true := by decide +kernel
theorem ts_all : ((List.range 8).all fun i => okS (PR.getD i 0) (ts i) (IV.l.getD i 0)) = true := by decide +kernel
theorem tc_ok {i : Nat} (h : i < 64) : 1 ≤ tc i ∧ tc i ≤ 34359738368 ∧ (tc i - 1) * (tc i - 1) * (tc i - 1) / 18446744073709551616 < prN i * 4294967296 ∧ prN i * 4294967296 ≤ tc i * tc i * tc i / 18446744073709551616 ∧ (tc i - 1) % 4294967296 = (KT.getD i 0).toNat := by
  have h1 := List.all_eq_true.1 tc_all i (List.mem_range.2 h)
  unfold okC at h1
  simp only [Bool.and_eq_true, decide_eq_true_eq] at h1
  unfold prN
  exact h1
theorem ts_ok {i : Nat} (h : i < 8) : 1 ≤ ts i ∧ ts i ≤ 34359738368 ∧ (ts i - 1) * (ts i - 1) / 18446744073709551616 < prN i ∧ prN i ≤ ts i * ts i / 18446744073709551616 ∧ (ts i - 1) % 4294967296 = (IV.l.getD i 0).toNat := by
  have h1 := List.all_eq_true.1 ts_all i (List.mem_range.2 h)
  unfold okS at h1
  simp only [Bool.and_eq_true, decide_eq_true_eq] at h1
  unfold prN
  exact h1
end Go.Proofs.YtobehmjmmnmflaaDoor
