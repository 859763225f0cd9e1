/- Plain mathematics of trees of digests and of chains: lists of bytes and natural numbers alone; the digest is any function that returns 32 bytes. | Plain mathematics of SHA-256: natural numbers and lists of bytes alone. No condition. | Contracts of the small functions of the laws and of the reference implementation of layer 2: left, Left, binary, rotated. | Words for the walks of layer 2: rows of bytes, of words and of strings. | The contract of the reference implementation's extended: it returns a row of its own with the padded string. | The contract of the reference implementation's block: it returns a row of its own with the eight words of the plain compression. | The contract of the reference implementation's Sum: it returns the plain digest. Condition: at most a million bytes. -/
import Derived.Test.YtngkfopdlkddnaaK03
import Derived.WalkKit
import Derived.WalkSpells
import Derived.WalkLawsBesides
import Derived.Lib.Hide
import Derived.IntWalk
import Derived.Maps.AppendAt
import Derived.Below
import Derived.Laws.BytesArg
import Derived.OwnWalk
import Derived.RangeFuncBox
import Derived.BigRegion
import Derived.Deep.QuietTactic
import Derived.BigQuiet
import Derived.Deep.RegionHeld3
import Derived.StillTailTactics
import Derived.Deep.AppendLies
import Derived.Deep.RegionLaw
import Derived.Deep.Onto
namespace Go.Proofs.Ytngkfopdlkddnaa
abbrev Bs := List UInt8

def leftA : Nat → Nat → Nat → Nat
  | 0, k, _ => k
  | f + 1, k, n => if k < n - k then leftA f (2 * k) n else k
def left (n : Nat) : Nat := leftA n 1 n

def rotN (x n : Nat) : Nat := (x >>> n) ||| ((x <<< (32 - n)) % 4294967296)
def chN (e f g : Nat) : Nat := (e &&& f) ^^^ ((4294967295 - e) &&& g)
def majN (a b c : Nat) : Nat := ((a &&& b) ^^^ (a &&& c)) ^^^ (b &&& c)
def sig0 (x : Nat) : Nat := (rotN x 7 ^^^ rotN x 18) ^^^ (x >>> 3)
def sig1 (x : Nat) : Nat := (rotN x 17 ^^^ rotN x 19) ^^^ (x >>> 10)
def eps1 (x : Nat) : Nat := (rotN x 6 ^^^ rotN x 11) ^^^ rotN x 25
def eps0 (x : Nat) : Nat := (rotN x 2 ^^^ rotN x 13) ^^^ rotN x 22

def shaK : List Nat := [
  0x428a2f98, 0x71374491, 0xb5c0fbcf, 0xe9b5dba5, 0x3956c25b, 0x59f111f1, 0x923f82a4, 0xab1c5ed5,
  0xd807aa98, 0x12835b01, 0x243185be, 0x550c7dc3, 0x72be5d74, 0x80deb1fe, 0x9bdc06a7, 0xc19bf174,
  0xe49b69c1, 0xefbe4786, 0x0fc19dc6, 0x240ca1cc, 0x2de92c6f, 0x4a7484aa, 0x5cb0a9dc, 0x76f988da,
  0x983e5152, 0xa831c66d, 0xb00327c8, 0xbf597fc7, 0xc6e00bf3, 0xd5a79147, 0x06ca6351, 0x14292967,
  0x27b70a85, 0x2e1b2138, 0x4d2c6dfc, 0x53380d13, 0x650a7354, 0x766a0abb, 0x81c2c92e, 0x92722c85,
  0xa2bfe8a1, 0xa81a664b, 0xc24b8b70, 0xc76c51a3, 0xd192e819, 0xd6990624, 0xf40e3585, 0x106aa070,
  0x19a4c116, 0x1e376c08, 0x2748774c, 0x34b0bcb5, 0x391c0cb3, 0x4ed8aa4a, 0x5b9cca4f, 0x682e6ff3,
  0x748f82ee, 0x78a5636f, 0x84c87814, 0x8cc70208, 0x90befffa, 0xa4506ceb, 0xbef9a3f7, 0xc67178f2]
/-- The string with what is added to it. -/
def padZ (n : Nat) : Nat := (119 - n % 64) % 64
def be8 (n : Nat) : List UInt8 := (List.range 8).map fun j => UInt8.ofNat (n / 2 ^ (8 * (7 - j)))
def padF (s : List UInt8) : List UInt8 := s ++ 128 :: (List.replicate (padZ s.length) 0 ++ be8 (8 * s.length))

/-- The words of a block. -/
def wordN (b : List UInt8) (j : Nat) : Nat := (b.getD (4 * j) 0).toNat * 16777216 + (b.getD (4 * j + 1) 0).toNat * 65536 + (b.getD (4 * j + 2) 0).toNat * 256 + (b.getD (4 * j + 3) 0).toNat
def words16 (b : List UInt8) : List Nat := (List.range 16).map (wordN b)
def nextW (w : List Nat) : Nat := (((w.getD (w.length - 16) 0 + sig0 (w.getD (w.length - 15) 0)) % 4294967296 + w.getD (w.length - 7) 0) % 4294967296 + sig1 (w.getD (w.length - 2) 0)) % 4294967296
def schedN (w : List Nat) : Nat → List Nat
  | 0 => w
  | j + 1 => schedN w j ++ [nextW (schedN w j)]

/-- The eight words. -/
structure Eight where
  (a b c d e f g h : Nat)
def tN (v : Eight) (k w : Nat) : Nat := ((((v.h + eps1 v.e) % 4294967296 + chN v.e v.f v.g) % 4294967296 + k) % 4294967296 + w) % 4294967296
def uN (v : Eight) : Nat := (eps0 v.a + majN v.a v.b v.c) % 4294967296
def stepE (v : Eight) (k w : Nat) : Eight := ⟨(tN v k w + uN v) % 4294967296, v.a, v.b, v.c, (v.d + tN v k w) % 4294967296, v.e, v.f, v.g⟩
def roundsN (w : List Nat) (v : Eight) : Nat → Eight
  | 0 => v
  | i + 1 => stepE (roundsN w v i) (shaK.getD i 0) (w.getD i 0)
def addE (v x : Eight) : Eight := ⟨(v.a + x.a) % 4294967296, (v.b + x.b) % 4294967296, (v.c + x.c) % 4294967296, (v.d + x.d) % 4294967296, (v.e + x.e) % 4294967296, (v.f + x.f) % 4294967296, (v.g + x.g) % 4294967296, (v.h + x.h) % 4294967296⟩
def blockE (v : Eight) (b : List UInt8) : Eight := addE v (roundsN (schedN (words16 b) 48) v 64)
def initE : Eight := ⟨0x6a09e667, 0xbb67ae85, 0x3c6ef372, 0xa54ff53a, 0x510e527f, 0x9b05688c, 0x1f83d9ab, 0x5be0cd19⟩
def hashN (b : List UInt8) : Nat → Eight
  | 0 => initE
  | j + 1 => blockE (hashN b j) ((b.drop (64 * j)).take 64)
def be4 (n : Nat) : List UInt8 := [UInt8.ofNat (n >>> 24), UInt8.ofNat (n >>> 16), UInt8.ofNat (n >>> 8), UInt8.ofNat n]
def bytesE (v : Eight) : List UInt8 := be4 v.a ++ (be4 v.b ++ (be4 v.c ++ (be4 v.d ++ (be4 v.e ++ (be4 v.f ++ (be4 v.g ++ be4 v.h))))))
def shaF (s : List UInt8) : List UInt8 := bytesE (hashN (padF s) ((padF s).length / 64))

theorem schedN_length (w : List Nat) (j : Nat) : (schedN w j).length = w.length + j := by
  induction j with
  | zero => rfl
  | succ j ih => unfold schedN; rw [List.length_append, ih, List.length_singleton]; omega

open Go.RowKit
theorem ofInt32 (x : Nat) (h : x < 4294967296) : (BitVec.ofInt 32 (x : Int)).toNat = x := by
  rw [BitVec.ofInt_natCast, BitVec.toNat_ofNat]; exact Nat.mod_eq_of_lt (by omega)
theorem wrap32 (x : Nat) (h : x < 4294967296) : IntKind.u32.wrap (x : Int) = (x : Int) := by
  show ((x : Int) % 4294967296) = _
  omega
theorem u32_or (x y : Nat) (hx : x < 4294967296) (hy : y < 4294967296) : bits .or .u32 (x : Int) (y : Int) = ((x ||| y : Nat) : Int) := by
  have hz : x ||| y < 2 ^ 32 := Nat.or_lt_two_pow (by omega) (by omega)
  show IntKind.u32.wrap ((BitVec.ofInt 32 (x : Int) ||| BitVec.ofInt 32 (y : Int)).toNat : Int) = _
  rw [BitVec.toNat_or, ofInt32 x hx, ofInt32 y hy]
  exact wrap32 _ (by omega)
theorem u32_xor (x y : Nat) (hx : x < 4294967296) (hy : y < 4294967296) : bits .xor .u32 (x : Int) (y : Int) = ((x ^^^ y : Nat) : Int) := by
  have hz : x ^^^ y < 2 ^ 32 := Nat.xor_lt_two_pow (by omega) (by omega)
  show IntKind.u32.wrap ((BitVec.ofInt 32 (x : Int) ^^^ BitVec.ofInt 32 (y : Int)).toNat : Int) = _
  rw [BitVec.toNat_xor, ofInt32 x hx, ofInt32 y hy]
  exact wrap32 _ (by omega)
theorem u32_and (x y : Nat) (hx : x < 4294967296) (hy : y < 4294967296) : bits .and .u32 (x : Int) (y : Int) = ((x &&& y : Nat) : Int) := by
  have hz : x &&& y < 2 ^ 32 := Nat.and_lt_two_pow _ (by omega)
  show IntKind.u32.wrap ((BitVec.ofInt 32 (x : Int) &&& BitVec.ofInt 32 (y : Int)).toNat : Int) = _
  rw [BitVec.toNat_and, ofInt32 x hx, ofInt32 y hy]
  exact wrap32 _ (by omega)

theorem rotN_lt (x n : Nat) (hx : x < 4294967296) : rotN x n < 4294967296 := by
  unfold rotN
  have h : x >>> n ||| (x <<< (32 - n)) % 4294967296 < 2 ^ 32 := Nat.or_lt_two_pow (by rw [Nat.shiftRight_eq_div_pow]; have := Nat.div_le_self x (2 ^ n); omega) (by omega)
  omega
theorem cells8_length (l : List UInt8) : (cells8 l).length = l.length := by unfold cells8; simp
def cells32 (l : List Nat) : List Value := l.map fun x => .int .u32 ((x : Nat) : Int)
theorem cells32_snoc (l : List Nat) (x : Nat) : cells32 (l ++ [x]) = cells32 l ++ [.int .u32 (x : Int)] := by
  unfold cells32; rw [List.map_append]; rfl
theorem cells32_length (l : List Nat) : (cells32 l).length = l.length := by unfold cells32; simp

/-- The length of a slice value. -/
def lenV : Value → Nat
  | .slice _ n _ => n
  | _ => 0
theorem take_snoc (s : ByteArray) (k : Nat) (h : k < s.size) : s.data.toList.take (k + 1) = s.data.toList.take k ++ [s[k]] := by
  rw [List.take_succ_eq_append_getElem (by simpa using h)]; rfl
def padT (s : ByteArray) : List UInt8 := s.data.toList ++ 128 :: List.replicate (padZ s.size) 0
theorem padF_padT (s : ByteArray) : padF s.data.toList = padT s ++ be8 (8 * s.size) := by
  unfold padF padT
  simp
theorem be8_snoc (n j : Nat) (h : j < 8) : (be8 n).take (j + 1) = (be8 n).take j ++ [UInt8.ofNat (n / 2 ^ (8 * (7 - j)))] := by
  have hl : j < (be8 n).length := by simp [be8]; omega
  rw [List.take_succ_eq_append_getElem hl]
  simp [be8]

def WordsAt (w : World) (b o : Nat) (l : List Nat) : Prop := ∀ i : Nat, i < l.length → w.cell? ⟨b, o + i, none⟩ = some (.int .u32 ((l.getD i 0 : Nat) : Int))
def BytesAt (w : World) (b o : Nat) (l : List UInt8) : Prop := ∀ i : Nat, i < l.length → w.cell? ⟨b, o + i, none⟩ = some (.int .u8 (((l.getD i 0).toNat : Nat) : Int))
def listE (v : Eight) : List Nat := [v.a, v.b, v.c, v.d, v.e, v.f, v.g, v.h]
theorem lt_of_cell {w : World} {p : Addr} {v : Value} (h : w.cell? p = some v) : p.block < w.heap.size := World.block_lt_of_cell? w _ h

theorem word_bits (x0 x1 x2 x3 : Nat) (h0 : x0 < 256) (h1 : x1 < 256) (h2 : x2 < 256) (h3 : x3 < 256) :
    bits .or .u32 (bits .or .u32 (bits .or .u32 ((x0 : Int) % 4294967296 * 16777216 % 4294967296) ((x1 : Int) % 4294967296 * 65536 % 4294967296)) ((x2 : Int) % 4294967296 * 256 % 4294967296)) ((x3 : Int) % 4294967296) =
      ((x0 * 16777216 + x1 * 65536 + x2 * 256 + x3 : Nat) : Int) := by
  have a0 : ((x0 : Int) % 4294967296 * 16777216 % 4294967296) = ((2 ^ 24 * x0 : Nat) : Int) := by omega
  have a1 : ((x1 : Int) % 4294967296 * 65536 % 4294967296) = ((x1 * 65536 : Nat) : Int) := by omega
  have a2 : ((x2 : Int) % 4294967296 * 256 % 4294967296) = ((x2 * 256 : Nat) : Int) := by omega
  have a3 : ((x3 : Int) % 4294967296) = (x3 : Int) := by omega
  rw [a0, a1, a2, a3, u32_or _ _ (by omega) (by omega), ← Nat.two_pow_add_eq_or_of_lt (by omega) x0,
    show 2 ^ 24 * x0 + x1 * 65536 = 2 ^ 16 * (x0 * 256 + x1) by omega, u32_or _ _ (by omega) (by omega), ← Nat.two_pow_add_eq_or_of_lt (by omega),
    show 2 ^ 16 * (x0 * 256 + x1) + x2 * 256 = 2 ^ 8 * ((x0 * 256 + x1) * 256 + x2) by omega, u32_or _ _ (by omega) (by omega), ← Nat.two_pow_add_eq_or_of_lt (by omega)]
  omega
theorem words16_snoc (bl : List UInt8) (k : Nat) (h : k < 16) : (words16 bl).take (k + 1) = (words16 bl).take k ++ [wordN bl k] := by
  have hl : k < (words16 bl).length := by simp [words16]; omega
  rw [List.take_succ_eq_append_getElem hl]
  simp [words16]

theorem wordN_lt (b : List UInt8) (j : Nat) : wordN b j < 4294967296 := by
  unfold wordN
  have h0 := (b.getD (4 * j) 0).toNat_lt
  have h1 := (b.getD (4 * j + 1) 0).toNat_lt
  have h2 := (b.getD (4 * j + 2) 0).toNat_lt
  have h3 := (b.getD (4 * j + 3) 0).toNat_lt
  omega
theorem schedN_lt (w : List Nat) (j : Nat) (hw : ∀ x ∈ w, x < 4294967296) : ∀ x ∈ schedN w j, x < 4294967296 := by
  induction j with
  | zero => exact hw
  | succ j ih =>
    intro x hx
    unfold schedN at hx
    rcases List.mem_append.1 hx with h | h
    · exact ih x h
    · rw [List.mem_singleton] at h
      subst h
      unfold nextW
      omega
theorem words16_lt (b : List UInt8) : ∀ x ∈ words16 b, x < 4294967296 := by
  intro x hx
  unfold words16 at hx
  obtain ⟨j, _, rfl⟩ := List.mem_map.1 hx
  exact wordN_lt b j
theorem getD_lt (l : List Nat) (h : ∀ x ∈ l, x < 4294967296) (j : Nat) : l.getD j 0 < 4294967296 := by
  rw [List.getD_eq_getElem?_getD]
  by_cases hj : j < l.length
  · rw [List.getElem?_eq_getElem hj]; exact h _ (List.getElem_mem _)
  · rw [List.getElem?_eq_none (by omega)]; decide
theorem row32_cell {w : World} {base g n c : Nat} {l : List Nat} (h : w.ownsRow base 128 1 (.slice (some ⟨g, 0, none⟩) n c) n (cells32 l)) (j : Nat) (hj : j < l.length) :
    w.cell? ⟨g, j, none⟩ = some (.int .u32 ((l.getD j 0 : Nat) : Int)) := by
  have h1 : (cells32 l)[j]? = some (.int .u32 ((l.getD j 0 : Nat) : Int)) := by
    unfold cells32
    rw [List.getElem?_map, List.getElem?_eq_getElem hj, List.getD_eq_getElem?_getD, List.getElem?_eq_getElem hj]
    rfl
  have h2 := World.ownsRow.cells h rfl _ _ h1
  have e : Addr.add ⟨g, 0, none⟩ j = ⟨g, j, none⟩ := by unfold Addr.add; split <;> simp_all
  rw [e] at h2
  exact h2
theorem xor3 (a b c : Nat) (ha : a < 4294967296) (hb : b < 4294967296) (hc : c < 4294967296) : bits .xor .u32 (bits .xor .u32 (a : Int) (b : Int)) (c : Int) = (((a ^^^ b) ^^^ c : Nat) : Int) := by
  have h : a ^^^ b < 2 ^ 32 := Nat.xor_lt_two_pow (by omega) (by omega)
  rw [u32_xor a b ha hb, u32_xor _ _ (by omega) hc]
theorem sum4_walk (a b c d : Nat) : IntKind.u32.wrap (IntKind.u32.wrap (IntKind.u32.wrap ((a : Int) + (b : Int)) + (c : Int)) + (d : Int)) = (((((a + b) % 4294967296 + c) % 4294967296 + d) % 4294967296 : Nat) : Int) := by
  show ((((a : Int) + (b : Int)) % 4294967296 + (c : Int)) % 4294967296 + (d : Int)) % 4294967296 = _
  omega
theorem sig0_walk (x : Nat) (h : x < 4294967296) : bits .xor .u32 (bits .xor .u32 ((rotN x 7 : Nat) : Int) ((rotN x 18 : Nat) : Int)) ((x : Int) / 8) = ((sig0 x : Nat) : Int) := by
  have e : (x : Int) / (8 : Int) = ((x >>> 3 : Nat) : Int) := by rw [Nat.shiftRight_eq_div_pow]; simp
  rw [e, xor3 _ _ _ (rotN_lt _ _ h) (rotN_lt _ _ h) (by rw [Nat.shiftRight_eq_div_pow]; omega)]
  rfl
theorem sig1_walk (x : Nat) (h : x < 4294967296) : bits .xor .u32 (bits .xor .u32 ((rotN x 17 : Nat) : Int) ((rotN x 19 : Nat) : Int)) ((x : Int) / 1024) = ((sig1 x : Nat) : Int) := by
  have e : (x : Int) / (1024 : Int) = ((x >>> 10 : Nat) : Int) := by rw [Nat.shiftRight_eq_div_pow]; simp
  rw [e, xor3 _ _ _ (rotN_lt _ _ h) (rotN_lt _ _ h) (by rw [Nat.shiftRight_eq_div_pow]; omega)]
  rfl

def okE (v : Eight) : Prop := v.a < 4294967296 ∧ v.b < 4294967296 ∧ v.c < 4294967296 ∧ v.d < 4294967296 ∧ v.e < 4294967296 ∧ v.f < 4294967296 ∧ v.g < 4294967296 ∧ v.h < 4294967296
theorem stepE_ok (v : Eight) (k w : Nat) (h : okE v) : okE (stepE v k w) := by
  obtain ⟨h1, h2, h3, h4, h5, h6, h7, h8⟩ := h
  exact ⟨Nat.mod_lt _ (by omega), h1, h2, h3, Nat.mod_lt _ (by omega), h5, h6, h7⟩
theorem roundsN_ok (w : List Nat) (v : Eight) (i : Nat) (h : okE v) : okE (roundsN w v i) := by
  induction i with
  | zero => exact h
  | succ i ih => exact stepE_ok _ _ _ ih
theorem addE_ok (v x : Eight) : okE (addE v x) := ⟨Nat.mod_lt _ (by omega), Nat.mod_lt _ (by omega), Nat.mod_lt _ (by omega), Nat.mod_lt _ (by omega), Nat.mod_lt _ (by omega), Nat.mod_lt _ (by omega), Nat.mod_lt _ (by omega), Nat.mod_lt _ (by omega)⟩
theorem not32 (x : Nat) (h : x < 4294967296) : bits .xor .u32 IntKind.u32.max (x : Int) = ((4294967295 - x : Nat) : Int) := by
  have h1 := u32_xor 4294967295 x (by omega) h
  have h2 : 4294967295 ^^^ x = 4294967295 - x := by
    have e := congrArg BitVec.toNat (BitVec.xor_allOnes (x := BitVec.ofNat 32 x))
    rw [BitVec.toNat_xor, BitVec.toNat_not, BitVec.toNat_ofNat, BitVec.toNat_allOnes, Nat.mod_eq_of_lt (by omega)] at e
    rw [Nat.xor_comm]
    exact e
  rw [← h2, ← h1]
  rfl
theorem and_lt32 (x y : Nat) (h : y < 4294967296) : x &&& y < 4294967296 := by
  have : x &&& y < 2 ^ 32 := Nat.and_lt_two_pow _ (by omega)
  omega
theorem t_walk (xa xb xc xd xe xf xg xh K X : Nat) (h5 : xe < 4294967296) (h6 : xf < 4294967296) (h7 : xg < 4294967296) :
    (((xh : Int) + bits BinOp.xor IntKind.u32 (bits BinOp.xor IntKind.u32 ((rotN xe 6 : Nat) : Int) ((rotN xe 11 : Nat) : Int)) ((rotN xe 25 : Nat) : Int) +
      bits BinOp.xor IntKind.u32 (bits BinOp.and IntKind.u32 (xe : Int) (xf : Int)) (bits BinOp.and IntKind.u32 (bits BinOp.xor IntKind.u32 IntKind.u32.max (xe : Int)) (xg : Int)) + (K : Int) + (X : Int)) % 4294967296) =
    ((tN ⟨xa, xb, xc, xd, xe, xf, xg, xh⟩ K X : Nat) : Int) := by
  rw [xor3 _ _ _ (rotN_lt _ _ h5) (rotN_lt _ _ h5) (rotN_lt _ _ h5), not32 _ h5, u32_and _ _ h5 h6, u32_and _ _ (by omega) h7, u32_xor _ _ (and_lt32 _ _ h6) (and_lt32 _ _ h7)]
  unfold tN eps1 chN
  dsimp only
  omega
theorem u_walk (xa xb xc xd xe xf xg xh : Nat) (h1 : xa < 4294967296) (h2 : xb < 4294967296) (h3 : xc < 4294967296) :
    ((bits BinOp.xor IntKind.u32 (bits BinOp.xor IntKind.u32 ((rotN xa 2 : Nat) : Int) ((rotN xa 13 : Nat) : Int)) ((rotN xa 22 : Nat) : Int) +
      bits BinOp.xor IntKind.u32 (bits BinOp.xor IntKind.u32 (bits BinOp.and IntKind.u32 (xa : Int) (xb : Int)) (bits BinOp.and IntKind.u32 (xa : Int) (xc : Int))) (bits BinOp.and IntKind.u32 (xb : Int) (xc : Int))) % 4294967296) =
    ((uN ⟨xa, xb, xc, xd, xe, xf, xg, xh⟩ : Nat) : Int) := by
  rw [xor3 _ _ _ (rotN_lt _ _ h1) (rotN_lt _ _ h1) (rotN_lt _ _ h1), u32_and _ _ h1 h2, u32_and _ _ h1 h3, u32_and _ _ h2 h3, xor3 _ _ _ (and_lt32 _ _ h2) (and_lt32 _ _ h3) (and_lt32 _ _ h3)]
  unfold uN eps0 majN
  dsimp only
  omega
theorem addE_at (v x : Eight) (k : Nat) (h : k < 8) : (listE (addE v x)).take (k + 1) = (listE (addE v x)).take k ++ [((listE v).getD k 0 + (listE x).getD k 0) % 4294967296] := by
  match k, h with
  | 0, _ => rfl
  | 1, _ => rfl
  | 2, _ => rfl
  | 3, _ => rfl
  | 4, _ => rfl
  | 5, _ => rfl
  | 6, _ => rfl
  | 7, _ => rfl
theorem sum2_walk (a b : Nat) : IntKind.u32.wrap ((a : Int) + (b : Int)) = (((a + b) % 4294967296 : Nat) : Int) := by
  show ((a : Int) + (b : Int)) % 4294967296 = _
  omega
theorem WordsAt.keep {w w' : World} {b o : Nat} {l : List Nat} (h : WordsAt w b o l) (hb : Below w.heap.size w w') : WordsAt w' b o l := fun i hi =>
  (hb.cell (p := ⟨b, o + i, none⟩) (lt_of_cell (h i hi))).trans (h i hi)
theorem words_row {w : World} {base g n c : Nat} {l : List Nat} (h : w.ownsRow base 128 1 (.slice (some ⟨g, 0, none⟩) n c) n (cells32 l)) : WordsAt w g 0 l := fun i hi => by
  rw [Nat.zero_add]; exact row32_cell h i hi
theorem words_new (w : World) (l : List Nat) (t : TypeId) : WordsAt (w.alloc (.cells (cells32 l).toArray t)) w.heap.size 0 l := fun i hi => by
  rw [cell_of_row _ _ _ _ _ _ (heap_alloc_new w (.cells (cells32 l).toArray t))]
  unfold cells32
  simp only [Nat.zero_add, List.getElem?_toArray, List.getElem?_map, List.getD_eq_getElem?_getD, List.getElem?_eq_getElem hi]
  rfl
theorem padF_length (l : List UInt8) : (padF l).length = 64 * ((padF l).length / 64) := by
  have h : (padF l).length = l.length + 1 + padZ l.length + 8 := by simp [padF, be8]; omega
  have h2 : (l.length + 1 + padZ l.length + 8) % 64 = 0 := by unfold padZ; omega
  omega
theorem padF_le (l : List UInt8) : (padF l).length ≤ l.length + 72 := by
  have h : (padF l).length = l.length + 1 + padZ l.length + 8 := by simp [padF, be8]; omega
  have h2 : padZ l.length ≤ 63 := by unfold padZ; omega
  omega
theorem padF_pos (l : List UInt8) : 64 ≤ (padF l).length := by
  have h := padF_length l
  have h2 : (padF l).length = l.length + 1 + padZ l.length + 8 := by simp [padF, be8]; omega
  omega
theorem hashN_ok (b : List UInt8) (j : Nat) : okE (hashN b j) := by
  cases j with
  | zero => show okE initE; unfold okE initE; decide
  | succ j => exact addE_ok _ _
theorem BytesAt.keep {w w' : World} {b o : Nat} {l : List UInt8} (h : BytesAt w b o l) (hb : Below w.heap.size w w') : BytesAt w' b o l := fun i hi =>
  (hb.cell (p := ⟨b, o + i, none⟩) (lt_of_cell (h i hi))).trans (h i hi)
theorem BytesAt.part {w : World} {b k n : Nat} {l : List UInt8} (h : BytesAt w b 0 l) (hk : k + n ≤ l.length) : BytesAt w b k ((l.drop k).take n) := fun i hi => by
  have hn : i < n := by rw [List.length_take] at hi; omega
  have h1 := h (k + i) (by omega)
  rw [Nat.zero_add] at h1
  rw [h1]
  simp only [List.getD_eq_getElem?_getD, List.getElem?_take, List.getElem?_drop, if_pos hn]
theorem bytes_row {w : World} {base g n c : Nat} {l : List UInt8} (h : w.ownsRow base 5 1 (.slice (some ⟨g, 0, none⟩) n c) n (cells8 l)) : BytesAt w g 0 l := fun i hi => by
  have h1 : (cells8 l)[i]? = some (.int .u8 (((l.getD i 0).toNat : Nat) : Int)) := by
    unfold cells8
    rw [List.getElem?_map, List.getElem?_eq_getElem hi, List.getD_eq_getElem?_getD, List.getElem?_eq_getElem hi]
    rfl
  have h2 := World.ownsRow.cells h rfl _ _ h1
  have e : Addr.add ⟨g, 0, none⟩ i = ⟨g, 0 + i, none⟩ := by unfold Addr.add; split <;> simp_all
  rw [e] at h2
  exact h2
theorem bytesE_at (x : Eight) (k : Nat) (h : k < 8) : (bytesE x).take (4 * (k + 1)) = (bytesE x).take (4 * k) ++ be4 ((listE x).getD k 0) := by
  match k, h with
  | 0, _ => rfl
  | 1, _ => rfl
  | 2, _ => rfl
  | 3, _ => rfl
  | 4, _ => rfl
  | 5, _ => rfl
  | 6, _ => rfl
  | 7, _ => rfl
theorem be4_cells (n : Nat) : cells8 (be4 n) = [.int .u8 (IntKind.u8.wrap ((n : Int) / 16777216)), .int .u8 (IntKind.u8.wrap ((n : Int) / 65536)), .int .u8 (IntKind.u8.wrap ((n : Int) / 256)), .int .u8 (IntKind.u8.wrap (n : Int))] := by
  show cells8 (be4 n) = ([.int .u8 ((n : Int) / 16777216 % 256), .int .u8 ((n : Int) / 65536 % 256), .int .u8 ((n : Int) / 256 % 256), .int .u8 ((n : Int) % 256)] : List Value)
  unfold cells8 be4
  simp [Nat.shiftRight_eq_div_pow]
theorem cells8_append (a b : List UInt8) : cells8 (a ++ b) = cells8 a ++ cells8 b := by unfold cells8; rw [List.map_append]

end Go.Proofs.Ytngkfopdlkddnaa
