/-
  SHA-256 as plain mathematics: words, rounds, compression, padding.
-/
import Derived.Test.YtjfpdbhjbleffaaDoorTr
namespace Go.Proofs.YtjfpdbhjbleffaaDoor

def KT : List (BitVec 32) := [
  0x428a2f98#32, 0x71374491#32, 0xb5c0fbcf#32, 0xe9b5dba5#32, 0x3956c25b#32, 0x59f111f1#32, 0x923f82a4#32, 0xab1c5ed5#32,
  0xd807aa98#32, 0x12835b01#32, 0x243185be#32, 0x550c7dc3#32, 0x72be5d74#32, 0x80deb1fe#32, 0x9bdc06a7#32, 0xc19bf174#32,
  0xe49b69c1#32, 0xefbe4786#32, 0x0fc19dc6#32, 0x240ca1cc#32, 0x2de92c6f#32, 0x4a7484aa#32, 0x5cb0a9dc#32, 0x76f988da#32,
  0x983e5152#32, 0xa831c66d#32, 0xb00327c8#32, 0xbf597fc7#32, 0xc6e00bf3#32, 0xd5a79147#32, 0x06ca6351#32, 0x14292967#32,
  0x27b70a85#32, 0x2e1b2138#32, 0x4d2c6dfc#32, 0x53380d13#32, 0x650a7354#32, 0x766a0abb#32, 0x81c2c92e#32, 0x92722c85#32,
  0xa2bfe8a1#32, 0xa81a664b#32, 0xc24b8b70#32, 0xc76c51a3#32, 0xd192e819#32, 0xd6990624#32, 0xf40e3585#32, 0x106aa070#32,
  0x19a4c116#32, 0x1e376c08#32, 0x2748774c#32, 0x34b0bcb5#32, 0x391c0cb3#32, 0x4ed8aa4a#32, 0x5b9cca4f#32, 0x682e6ff3#32,
  0x748f82ee#32, 0x78a5636f#32, 0x84c87814#32, 0x8cc70208#32, 0x90befffa#32, 0xa4506ceb#32, 0xbef9a3f7#32, 0xc67178f2#32]

/-- The eight numbers of a state. -/
structure S8 where
  a : BitVec 32
  b : BitVec 32
  c : BitVec 32
  d : BitVec 32
  e : BitVec 32
  f : BitVec 32
  g : BitVec 32
  h : BitVec 32
def S8.l (s : S8) : List (BitVec 32) := [s.a, s.b, s.c, s.d, s.e, s.f, s.g, s.h]
def IV : S8 := ⟨0x6a09e667#32, 0xbb67ae85#32, 0x3c6ef372#32, 0xa54ff53a#32, 0x510e527f#32, 0x9b05688c#32, 0x1f83d9ab#32, 0x5be0cd19#32⟩

/-- The words behind i bytes. -/
def wl (bs : List UInt8) : Nat → List (BitVec 32)
  | 0 => z64
  | i + 1 => (wl bs i).set (i / 4) ((wl bs i).getD (i / 4) 0#32 <<< 8 ||| bw (bs.getD i 0))
def sg0 (x : BitVec 32) : BitVec 32 := rot x 7 ^^^ rot x 18 ^^^ x >>> 3
def sg1 (y : BitVec 32) : BitVec 32 := rot y 17 ^^^ rot y 19 ^^^ y >>> 10
/-- The words behind n mixed ones. -/
def wx (bs : List UInt8) : Nat → List (BitVec 32)
  | 0 => wl bs 64
  | n + 1 => (wx bs n).set (16 + n) ((wx bs n).getD n 0#32 + sg0 ((wx bs n).getD (n + 1) 0#32) + (wx bs n).getD (n + 9) 0#32 + sg1 ((wx bs n).getD (n + 14) 0#32))
theorem wl_zero (bs : List UInt8) : wl bs 0 = z64 := rfl
theorem wl_succ (bs : List UInt8) (i : Nat) : wl bs (i + 1) = (wl bs i).set (i / 4) ((wl bs i).getD (i / 4) 0#32 <<< 8 ||| bw (bs.getD i 0)) := rfl
theorem wx_zero (bs : List UInt8) : wx bs 0 = wl bs 64 := rfl
theorem wx_succ (bs : List UInt8) (n : Nat) : wx bs (n + 1) = (wx bs n).set (16 + n) ((wx bs n).getD n 0#32 + sg0 ((wx bs n).getD (n + 1) 0#32) + (wx bs n).getD (n + 9) 0#32 + sg1 ((wx bs n).getD (n + 14) 0#32)) := rfl
theorem wl_length (bs : List UInt8) (i : Nat) : (wl bs i).length = 64 := by
  induction i with
  | zero => simp [wl, z64_length]
  | succ i ih => simp [wl, ih]
theorem wx_length (bs : List UInt8) (n : Nat) : (wx bs n).length = 64 := by
  induction n with
  | zero => simp [wx, wl_length]
  | succ i ih => simp [wx, ih]

attribute [irreducible] wl wx sg0 sg1

def rp (s : S8) (k w : BitVec 32) : BitVec 32 := s.h + (rot s.e 6 ^^^ rot s.e 11 ^^^ rot s.e 25) + (s.e &&& s.f ^^^ ~~~s.e &&& s.g) + k + w
def rq (s : S8) : BitVec 32 := (rot s.a 2 ^^^ rot s.a 13 ^^^ rot s.a 22) + (s.a &&& s.b ^^^ s.a &&& s.c ^^^ s.b &&& s.c)
def rnd (s : S8) (k w : BitVec 32) : S8 := ⟨rp s k w + rq s, s.a, s.b, s.c, s.d + rp s k w, s.e, s.f, s.g⟩
def rnds (s : S8) (ws : List (BitVec 32)) : Nat → S8
  | 0 => s
  | t + 1 => rnd (rnds s ws t) (KT.getD t 0#32) (ws.getD t 0#32)
def S8.add (s t : S8) : S8 := ⟨s.a + t.a, s.b + t.b, s.c + t.c, s.d + t.d, s.e + t.e, s.f + t.f, s.g + t.g, s.h + t.h⟩
/-- A state compressed with a block. -/
def comp (s : S8) (bs : List UInt8) : S8 := s.add (rnds s (wx bs 48) 64)

/-- Eight bytes of a number, the highest first. -/
def be8 (n : Nat) : List UInt8 := (List.range 8).map fun i => UInt8.ofNat (n >>> (8 * (7 - i)))
def nought (n : Nat) : Nat := (119 - n % 64) % 64
def padL (bs : List UInt8) : List UInt8 := bs ++ 128 :: (List.replicate (nought bs.length) 0 ++ be8 (8 * bs.length))
theorem be8_length (n : Nat) : (be8 n).length = 8 := by simp [be8]
theorem padL_length (bs : List UInt8) : (padL bs).length = (bs.length + 8) / 64 * 64 + 64 := by
  simp only [padL, List.length_append, List.length_cons, List.length_replicate, be8_length, nought]
  omega
/-- The states behind k blocks. -/
def folds (p : List UInt8) : Nat → S8
  | 0 => IV
  | k + 1 => comp (folds p k) ((p.drop (64 * k)).take 64)
def bytesOf (s : S8) : List UInt8 := (List.range 32).map fun i => wb (s.l.getD (i / 4) 0#32 >>> (24 - i % 4 * 8))
/-- A text's hash. -/
def hashL (bs : List UInt8) : List UInt8 := bytesOf (folds (padL bs) ((padL bs).length / 64))
theorem hashL_length (bs : List UInt8) : (hashL bs).length = 32 := by simp [hashL, bytesOf]
theorem rnds_zero (s : S8) (ws : List (BitVec 32)) : rnds s ws 0 = s := rfl
theorem rnds_succ (s : S8) (ws : List (BitVec 32)) (t : Nat) : rnds s ws (t + 1) = rnd (rnds s ws t) (KT.getD t 0#32) (ws.getD t 0#32) := rfl
theorem comp_eq (s : S8) (bs : List UInt8) : comp s bs = s.add (rnds s (wx bs 48) 64) := rfl
theorem folds_zero (p : List UInt8) : folds p 0 = IV := rfl
theorem folds_succ (p : List UInt8) (k : Nat) : folds p (k + 1) = comp (folds p k) ((p.drop (64 * k)).take 64) := rfl
theorem hash_abc : (hashL [97, 98, 99]).take 4 = [0xba, 0x78, 0x16, 0xbf] := by decide +kernel
attribute [irreducible] rnds comp folds padL hashL bytesOf
end Go.Proofs.YtjfpdbhjbleffaaDoor
