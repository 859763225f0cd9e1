/- Plain mathematics of SHA-256: natural numbers and lists of bytes alone. No condition. -/
import Derived.Test.YtnbeebndcgoalaaDoorDTree
namespace Go.Proofs.YtnbeebndcgoalaaDoor
def rotN (x n : Nat) : Nat := (x >>> n) ||| ((x <<< (32 - n)) % 4294967296)
def chN (e f g : Nat) : Nat := (e &&& f) ^^^ ((4294967295 - e) &&& g)
def majN (a b c : Nat) : Nat := ((a &&& b) ^^^ (a &&& c)) ^^^ (b &&& c)
def sig0 (x : Nat) : Nat := (rotN x 7 ^^^ rotN x 18) ^^^ (x >>> 3)
def sig1 (x : Nat) : Nat := (rotN x 17 ^^^ rotN x 19) ^^^ (x >>> 10)
def eps1 (x : Nat) : Nat := (rotN x 6 ^^^ rotN x 11) ^^^ rotN x 25
def eps0 (x : Nat) : Nat := (rotN x 2 ^^^ rotN x 13) ^^^ rotN x 22

def shaK : List Nat := [
  0x428a2f98, 0x71374491, 0xb5c0fbcf, 0xe9b5dba5, 0x3956c25b, 0x59f111f1, 0x923f82a4, 0xab1c5ed5,
  0xd807aa98, 0x12835b01, 0x243185be, 0x550c7dc3, 0x72be5d74, 0x80deb1fe, 0x9bdc06a7, 0xc19bf174,
  0xe49b69c1, 0xefbe4786, 0x0fc19dc6, 0x240ca1cc, 0x2de92c6f, 0x4a7484aa, 0x5cb0a9dc, 0x76f988da,
  0x983e5152, 0xa831c66d, 0xb00327c8, 0xbf597fc7, 0xc6e00bf3, 0xd5a79147, 0x06ca6351, 0x14292967,
  0x27b70a85, 0x2e1b2138, 0x4d2c6dfc, 0x53380d13, 0x650a7354, 0x766a0abb, 0x81c2c92e, 0x92722c85,
  0xa2bfe8a1, 0xa81a664b, 0xc24b8b70, 0xc76c51a3, 0xd192e819, 0xd6990624, 0xf40e3585, 0x106aa070,
  0x19a4c116, 0x1e376c08, 0x2748774c, 0x34b0bcb5, 0x391c0cb3, 0x4ed8aa4a, 0x5b9cca4f, 0x682e6ff3,
  0x748f82ee, 0x78a5636f, 0x84c87814, 0x8cc70208, 0x90befffa, 0xa4506ceb, 0xbef9a3f7, 0xc67178f2]
/-- The string with what is added to it. -/
def padZ (n : Nat) : Nat := (119 - n % 64) % 64
def be8 (n : Nat) : List UInt8 := (List.range 8).map fun j => UInt8.ofNat (n / 2 ^ (8 * (7 - j)))
def padF (s : List UInt8) : List UInt8 := s ++ 128 :: (List.replicate (padZ s.length) 0 ++ be8 (8 * s.length))

/-- The words of a block. -/
def wordN (b : List UInt8) (j : Nat) : Nat := (b.getD (4 * j) 0).toNat * 16777216 + (b.getD (4 * j + 1) 0).toNat * 65536 + (b.getD (4 * j + 2) 0).toNat * 256 + (b.getD (4 * j + 3) 0).toNat
def words16 (b : List UInt8) : List Nat := (List.range 16).map (wordN b)
def nextW (w : List Nat) : Nat := (((w.getD (w.length - 16) 0 + sig0 (w.getD (w.length - 15) 0)) % 4294967296 + w.getD (w.length - 7) 0) % 4294967296 + sig1 (w.getD (w.length - 2) 0)) % 4294967296
def schedN (w : List Nat) : Nat → List Nat
  | 0 => w
  | j + 1 => schedN w j ++ [nextW (schedN w j)]

/-- The eight words. -/
structure Eight where
  (a b c d e f g h : Nat)
def tN (v : Eight) (k w : Nat) : Nat := ((((v.h + eps1 v.e) % 4294967296 + chN v.e v.f v.g) % 4294967296 + k) % 4294967296 + w) % 4294967296
def uN (v : Eight) : Nat := (eps0 v.a + majN v.a v.b v.c) % 4294967296
def stepE (v : Eight) (k w : Nat) : Eight := ⟨(tN v k w + uN v) % 4294967296, v.a, v.b, v.c, (v.d + tN v k w) % 4294967296, v.e, v.f, v.g⟩
def roundsN (w : List Nat) (v : Eight) : Nat → Eight
  | 0 => v
  | i + 1 => stepE (roundsN w v i) (shaK.getD i 0) (w.getD i 0)
def addE (v x : Eight) : Eight := ⟨(v.a + x.a) % 4294967296, (v.b + x.b) % 4294967296, (v.c + x.c) % 4294967296, (v.d + x.d) % 4294967296, (v.e + x.e) % 4294967296, (v.f + x.f) % 4294967296, (v.g + x.g) % 4294967296, (v.h + x.h) % 4294967296⟩
def blockE (v : Eight) (b : List UInt8) : Eight := addE v (roundsN (schedN (words16 b) 48) v 64)
def initE : Eight := ⟨0x6a09e667, 0xbb67ae85, 0x3c6ef372, 0xa54ff53a, 0x510e527f, 0x9b05688c, 0x1f83d9ab, 0x5be0cd19⟩
def hashN (b : List UInt8) : Nat → Eight
  | 0 => initE
  | j + 1 => blockE (hashN b j) ((b.drop (64 * j)).take 64)
def be4 (n : Nat) : List UInt8 := [UInt8.ofNat (n >>> 24), UInt8.ofNat (n >>> 16), UInt8.ofNat (n >>> 8), UInt8.ofNat n]
def bytesE (v : Eight) : List UInt8 := be4 v.a ++ (be4 v.b ++ (be4 v.c ++ (be4 v.d ++ (be4 v.e ++ (be4 v.f ++ (be4 v.g ++ be4 v.h))))))
def shaF (s : List UInt8) : List UInt8 := bytesE (hashN (padF s) ((padF s).length / 64))

theorem schedN_length (w : List Nat) (j : Nat) : (schedN w j).length = w.length + j := by
  induction j with
  | zero => rfl
  | succ j ih => unfold schedN; rw [List.length_append, ih, List.length_singleton]; omega

end Go.Proofs.YtnbeebndcgoalaaDoor
