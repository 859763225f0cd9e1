/- Plain mathematics of trees of digests and of chains: lists of bytes and natural numbers alone; the digest is any function that returns 32 bytes. | Plain mathematics of SHA-256: natural numbers and lists of bytes alone. No condition. | Contracts of the small functions of the laws and of the reference implementation of layer 2: left, Left, binary, rotated. | Words for the walks of layer 2: rows of bytes, of words and of strings. | The contract of the reference implementation's extended: it returns a row of its own with the padded string. | The contract of the reference implementation's block: it returns a row of its own with the eight words of the plain compression. | The contract of the reference implementation's Sum: it returns the plain digest. Condition: at most a million bytes. -/
import Derived.Test.YtnndnjnpkjpkpaaGreatDoorWRefD
import Derived.WalkKit
import Derived.WalkSpells
import Derived.WalkLawsBesides
import Derived.Lib.Hide
import Derived.IntWalk
import Derived.Maps.AppendAt
import Derived.Below
import Derived.Laws.BytesArg
import Derived.OwnWalk
import Derived.RangeFuncBox
import Derived.BigRegion
import Derived.Deep.QuietTactic
import Derived.BigQuiet
import Derived.Deep.RegionHeld3
import Derived.StillTailTactics
import Derived.Deep.AppendLies
import Derived.Deep.RegionLaw
import Derived.Deep.Onto
namespace Go.Proofs.YtnndnjnpkjpkpaaGreatDoor
abbrev Bs := List UInt8

def leftA : Nat → Nat → Nat → Nat
  | 0, k, _ => k
  | f + 1, k, n => if k < n - k then leftA f (2 * k) n else k
def left (n : Nat) : Nat := leftA n 1 n

end Go.Proofs.YtnndnjnpkjpkpaaGreatDoor
namespace Go.Proofs.YtnndnjnpkjpkpaaGreatDoor
def rotN (x n : Nat) : Nat := (x >>> n) ||| ((x <<< (32 - n)) % 4294967296)
def chN (e f g : Nat) : Nat := (e &&& f) ^^^ ((4294967295 - e) &&& g)
def majN (a b c : Nat) : Nat := ((a &&& b) ^^^ (a &&& c)) ^^^ (b &&& c)
def sig0 (x : Nat) : Nat := (rotN x 7 ^^^ rotN x 18) ^^^ (x >>> 3)
def sig1 (x : Nat) : Nat := (rotN x 17 ^^^ rotN x 19) ^^^ (x >>> 10)
def eps1 (x : Nat) : Nat := (rotN x 6 ^^^ rotN x 11) ^^^ rotN x 25
def eps0 (x : Nat) : Nat := (rotN x 2 ^^^ rotN x 13) ^^^ rotN x 22

def shaK : List Nat := [
  0x428a2f98, 0x71374491, 0xb5c0fbcf, 0xe9b5dba5, 0x3956c25b, 0x59f111f1, 0x923f82a4, 0xab1c5ed5,
  0xd807aa98, 0x12835b01, 0x243185be, 0x550c7dc3, 0x72be5d74, 0x80deb1fe, 0x9bdc06a7, 0xc19bf174,
  0xe49b69c1, 0xefbe4786, 0x0fc19dc6, 0x240ca1cc, 0x2de92c6f, 0x4a7484aa, 0x5cb0a9dc, 0x76f988da,
  0x983e5152, 0xa831c66d, 0xb00327c8, 0xbf597fc7, 0xc6e00bf3, 0xd5a79147, 0x06ca6351, 0x14292967,
  0x27b70a85, 0x2e1b2138, 0x4d2c6dfc, 0x53380d13, 0x650a7354, 0x766a0abb, 0x81c2c92e, 0x92722c85,
  0xa2bfe8a1, 0xa81a664b, 0xc24b8b70, 0xc76c51a3, 0xd192e819, 0xd6990624, 0xf40e3585, 0x106aa070,
  0x19a4c116, 0x1e376c08, 0x2748774c, 0x34b0bcb5, 0x391c0cb3, 0x4ed8aa4a, 0x5b9cca4f, 0x682e6ff3,
  0x748f82ee, 0x78a5636f, 0x84c87814, 0x8cc70208, 0x90befffa, 0xa4506ceb, 0xbef9a3f7, 0xc67178f2]
/-- The string with what is added to it. -/
def padZ (n : Nat) : Nat := (119 - n % 64) % 64
def be8 (n : Nat) : List UInt8 := (List.range 8).map fun j => UInt8.ofNat (n / 2 ^ (8 * (7 - j)))
def padF (s : List UInt8) : List UInt8 := s ++ 128 :: (List.replicate (padZ s.length) 0 ++ be8 (8 * s.length))

/-- The words of a block. -/
def wordN (b : List UInt8) (j : Nat) : Nat := (b.getD (4 * j) 0).toNat * 16777216 + (b.getD (4 * j + 1) 0).toNat * 65536 + (b.getD (4 * j + 2) 0).toNat * 256 + (b.getD (4 * j + 3) 0).toNat
def words16 (b : List UInt8) : List Nat := (List.range 16).map (wordN b)
def nextW (w : List Nat) : Nat := (((w.getD (w.length - 16) 0 + sig0 (w.getD (w.length - 15) 0)) % 4294967296 + w.getD (w.length - 7) 0) % 4294967296 + sig1 (w.getD (w.length - 2) 0)) % 4294967296
def schedN (w : List Nat) : Nat → List Nat
  | 0 => w
  | j + 1 => schedN w j ++ [nextW (schedN w j)]

/-- The eight words. -/
structure Eight where
  (a b c d e f g h : Nat)
def tN (v : Eight) (k w : Nat) : Nat := ((((v.h + eps1 v.e) % 4294967296 + chN v.e v.f v.g) % 4294967296 + k) % 4294967296 + w) % 4294967296
def uN (v : Eight) : Nat := (eps0 v.a + majN v.a v.b v.c) % 4294967296
def stepE (v : Eight) (k w : Nat) : Eight := ⟨(tN v k w + uN v) % 4294967296, v.a, v.b, v.c, (v.d + tN v k w) % 4294967296, v.e, v.f, v.g⟩
def roundsN (w : List Nat) (v : Eight) : Nat → Eight
  | 0 => v
  | i + 1 => stepE (roundsN w v i) (shaK.getD i 0) (w.getD i 0)
def addE (v x : Eight) : Eight := ⟨(v.a + x.a) % 4294967296, (v.b + x.b) % 4294967296, (v.c + x.c) % 4294967296, (v.d + x.d) % 4294967296, (v.e + x.e) % 4294967296, (v.f + x.f) % 4294967296, (v.g + x.g) % 4294967296, (v.h + x.h) % 4294967296⟩
def blockE (v : Eight) (b : List UInt8) : Eight := addE v (roundsN (schedN (words16 b) 48) v 64)
def initE : Eight := ⟨0x6a09e667, 0xbb67ae85, 0x3c6ef372, 0xa54ff53a, 0x510e527f, 0x9b05688c, 0x1f83d9ab, 0x5be0cd19⟩
def hashN (b : List UInt8) : Nat → Eight
  | 0 => initE
  | j + 1 => blockE (hashN b j) ((b.drop (64 * j)).take 64)
def be4 (n : Nat) : List UInt8 := [UInt8.ofNat (n >>> 24), UInt8.ofNat (n >>> 16), UInt8.ofNat (n >>> 8), UInt8.ofNat n]
def bytesE (v : Eight) : List UInt8 := be4 v.a ++ (be4 v.b ++ (be4 v.c ++ (be4 v.d ++ (be4 v.e ++ (be4 v.f ++ (be4 v.g ++ be4 v.h))))))
def shaF (s : List UInt8) : List UInt8 := bytesE (hashN (padF s) ((padF s).length / 64))

theorem schedN_length (w : List Nat) (j : Nat) : (schedN w j).length = w.length + j := by
  induction j with
  | zero => rfl
  | succ j ih => unfold schedN; rw [List.length_append, ih, List.length_singleton]; omega

end Go.Proofs.YtnndnjnpkjpkpaaGreatDoor
namespace Go.Proofs.YtnndnjnpkjpkpaaGreatDoor
open Go.RowKit
theorem ofInt32 (x : Nat) (h : x < 4294967296) : (BitVec.ofInt 32 (x : Int)).toNat = x := by
  rw [BitVec.ofInt_natCast, BitVec.toNat_ofNat]; exact Nat.mod_eq_of_lt (by omega)
theorem wrap32 (x : Nat) (h : x < 4294967296) : IntKind.u32.wrap (x : Int) = (x : Int) := by
  show ((x : Int) % 4294967296) = _
  omega
theorem u32_or (x y : Nat) (hx : x < 4294967296) (hy : y < 4294967296) : bits .or .u32 (x : Int) (y : Int) = ((x ||| y : Nat) : Int) := by
  have hz : x ||| y < 2 ^ 32 := Nat.or_lt_two_pow (by omega) (by omega)
  show IntKind.u32.wrap ((BitVec.ofInt 32 (x : Int) ||| BitVec.ofInt 32 (y : Int)).toNat : Int) = _
  rw [BitVec.toNat_or, ofInt32 x hx, ofInt32 y hy]
  exact wrap32 _ (by omega)
theorem u32_xor (x y : Nat) (hx : x < 4294967296) (hy : y < 4294967296) : bits .xor .u32 (x : Int) (y : Int) = ((x ^^^ y : Nat) : Int) := by
  have hz : x ^^^ y < 2 ^ 32 := Nat.xor_lt_two_pow (by omega) (by omega)
  show IntKind.u32.wrap ((BitVec.ofInt 32 (x : Int) ^^^ BitVec.ofInt 32 (y : Int)).toNat : Int) = _
  rw [BitVec.toNat_xor, ofInt32 x hx, ofInt32 y hy]
  exact wrap32 _ (by omega)
theorem u32_and (x y : Nat) (hx : x < 4294967296) (hy : y < 4294967296) : bits .and .u32 (x : Int) (y : Int) = ((x &&& y : Nat) : Int) := by
  have hz : x &&& y < 2 ^ 32 := Nat.and_lt_two_pow _ (by omega)
  show IntKind.u32.wrap ((BitVec.ofInt 32 (x : Int) &&& BitVec.ofInt 32 (y : Int)).toNat : Int) = _
  rw [BitVec.toNat_and, ofInt32 x hx, ofInt32 y hy]
  exact wrap32 _ (by omega)

theorem rotated_calls (x n : Nat) (w : World) (hx : x < 4294967296) (h1 : 1 ≤ n) (hn : n ≤ 31) :
    Calls Tryz.prog 87 #[.int .u32 (x : Int), .int .i64 (n : Int)] w fun e w' => e = .returned (.int .u32 ((rotN x n : Nat) : Int)) ∧ w' = w.drewN 1 := by
  have HE : Hid (bits BinOp.or IntKind.u32 ((x : Int) / 2 ^ n) ((x : Int) * 2 ^ (32 - n) % 4294967296) = ((rotN x n : Nat) : Int)) := Lib.hid (by
    have h2 : x / 2 ^ n ≤ x := Nat.div_le_self _ _
    have h3 := u32_or (x / 2 ^ n) (x * 2 ^ (32 - n) % 4294967296) (by omega) (by omega)
    unfold rotN
    rw [Nat.shiftRight_eq_div_pow, Nat.shiftLeft_eq, ← h3]
    simp)
  go_enter Tryz.func87, Tryz.ntmps87
  go_wp2
  go_region
  all_goals go_wp2_with fail
  go_ret
  exact ⟨by rw [← HE.out]; rfl, rfl⟩
theorem rotN_lt (x n : Nat) (hx : x < 4294967296) : rotN x n < 4294967296 := by
  unfold rotN
  have h : x >>> n ||| (x <<< (32 - n)) % 4294967296 < 2 ^ 32 := Nat.or_lt_two_pow (by rw [Nat.shiftRight_eq_div_pow]; have := Nat.div_le_self x (2 ^ n); omega) (by omega)
  omega
end Go.Proofs.YtnndnjnpkjpkpaaGreatDoor
namespace Go.Proofs.YtnndnjnpkjpkpaaGreatDoor
open Go.RowKit
theorem cells8_length (l : List UInt8) : (cells8 l).length = l.length := by unfold cells8; simp
def cells32 (l : List Nat) : List Value := l.map fun x => .int .u32 ((x : Nat) : Int)
theorem cells32_snoc (l : List Nat) (x : Nat) : cells32 (l ++ [x]) = cells32 l ++ [.int .u32 (x : Int)] := by
  unfold cells32; rw [List.map_append]; rfl
theorem cells32_length (l : List Nat) : (cells32 l).length = l.length := by unfold cells32; simp

/-- The length of a slice value. -/
def lenV : Value → Nat
  | .slice _ n _ => n
  | _ => 0
theorem take_snoc (s : ByteArray) (k : Nat) (h : k < s.size) : s.data.toList.take (k + 1) = s.data.toList.take k ++ [s[k]] := by
  rw [List.take_succ_eq_append_getElem (by simpa using h)]; rfl
end Go.Proofs.YtnndnjnpkjpkpaaGreatDoor
namespace Go.Proofs.YtnndnjnpkjpkpaaGreatDoor
open Go.RowKit
def padT (s : ByteArray) : List UInt8 := s.data.toList ++ 128 :: List.replicate (padZ s.size) 0
theorem padF_padT (s : ByteArray) : padF s.data.toList = padT s ++ be8 (8 * s.size) := by
  unfold padF padT
  simp
theorem be8_snoc (n j : Nat) (h : j < 8) : (be8 n).take (j + 1) = (be8 n).take j ++ [UInt8.ofNat (n / 2 ^ (8 * (7 - j)))] := by
  have hl : j < (be8 n).length := by simp [be8]; omega
  rw [List.take_succ_eq_append_getElem hl]
  simp [be8]

set_option maxRecDepth 100000 in
set_option maxHeartbeats 4000000 in
theorem extended_calls (s : ByteArray) (w : World) (hs : s.size ≤ 1000000) :
    Calls Tryz.prog 69 #[.string s] w fun e W' => ∃ v, e = .returned v ∧ W'.ownsRow w.heap.size 5 1 v (padF s.data.toList).length (cells8 (padF s.data.toList)) ∧ Below w.heap.size w W' := by
  obtain ⟨i0, hi, hz0, hz1, hz2⟩ := info_parts (show (Tryz.prog.info? 5).map (fun i => (i.zero, i.size, i.bytes)) = some (some (.int .u8 0), 1, 1) from by kernel_rfl)
  go_enter Tryz.func69, Tryz.ntmps69
  go_wp2_with fail
  go_loopw [3, 4] (fun bv iv wr => ∃ k : Nat, k ≤ s.size ∧ iv = .int .i64 k ∧ Hid (wr.ownsRow w.heap.size 5 1 bv k (cells8 (s.data.toList.take k))) ∧ Below w.heap.size w wr)
    (fun _ iv _ => s.size - (intOf iv).toNat)
  case atStart => exact ⟨0, by omega, rfl, Lib.hid (World.ownsRow_nil _ _ _ _), Below.refl _ _⟩
  case round =>
    obtain ⟨k, hk, rfl, Ho, bR⟩ := hrel
    by_cases hlt : k < s.size
    · have Hc : Hid (cells8 (s.data.toList.take (k + 1)) = cells8 (s.data.toList.take k) ++ [.int .u8 ((s[k].toNat : Nat) : Int)]) := Lib.hid (by rw [take_snoc s k hlt]; exact cells8_snoc _ _ _ rfl)
      go_wp2_with (at_builtin; refine wpList_append_own _ rfl _ _ 94 rfl w.heap.size 5 i0 (.int .u8 0) 1 1 Tryz.underlying94 hi hz0 hz1 hz2 rfl (by decide) _ _ _ rfl (Ho.out.alloc _) ⟨wr.heap.size, 0, none⟩ 1 1 [.int .u8 ((s[k].toNat : Nat) : Int)] rfl rfl ?c1 ?c2 ?c3 ?c4 ?c5 ?_)
      case c1 => exact cell_one_new _ _ _
      case c2 => simp [Value.oneCell']
      case c3 => unfold maxLen; omega
      case c4 => omega
      case c5 => have := bR.size; simp; omega
      intro v' w1 hown' hgrow _
      have bS : Below w.heap.size w w1 := (bR.alloc bR.size _).grown hgrow (by have := bR.size; simp; omega) (fun q e => (Ho.out.lt q e).1)
      have Hown := Lib.hid hown'
      clear hown' hgrow
      go_wp2_with fail
      go_roundw
      case rel => exact ⟨k + 1, by omega, by go_num, Lib.hid (by rw [Hc.out]; exact Hown.out), bS⟩
      case measure => simp [intOf]; omega
    · obtain rfl : k = s.size := by omega
      have hl0 : (s.size : Int) ≤ (s.size : Int) := by omega
      have Hc : Hid (cells8 (s.data.toList.take s.size) ++ [.int .u8 128] = cells8 (s.data.toList ++ 128 :: List.replicate 0 0)) := Lib.hid (by
        rw [List.take_of_length_le (by simp)]
        exact (cells8_snoc _ 128 _ rfl).symm)
      clear hlt hk
      go_wp2_with (at_builtin; refine wpList_append_own _ rfl _ _ 94 rfl w.heap.size 5 i0 (.int .u8 0) 1 1 Tryz.underlying94 hi hz0 hz1 hz2 rfl (by decide) _ _ _ rfl (Ho.out.alloc _) ⟨wr.heap.size, 0, none⟩ 1 1 [.int .u8 128] rfl rfl ?d1 ?d2 ?d3 ?d4 ?d5 ?_)
      case d1 => exact cell_one_new _ _ _
      case d2 => simp [Value.oneCell']
      case d3 => unfold maxLen; omega
      case d4 => omega
      case d5 => have := bR.size; simp; omega
      intro v' w1 hown' hgrow _
      have bS : Below w.heap.size w w1 := (bR.alloc bR.size _).grown hgrow (by have := bR.size; simp; omega) (fun q e => (Ho.out.lt q e).1)
      rw [Hc.out] at hown'
      obtain ⟨g1, c1, rfl⟩ := ownsRow_succ hown'
      have Hown := Lib.hid hown'
      clear hown' hgrow Hc Ho bR
      go_wp2_with fail
      go_loopw [3] (fun bv wr => ∃ z : Nat, z ≤ padZ s.size ∧ (∃ g cap, bv = .slice (some ⟨g, 0, none⟩) (s.size + 1 + z) cap) ∧ Hid (wr.ownsRow w.heap.size 5 1 bv (s.size + 1 + z) (cells8 (s.data.toList ++ 128 :: List.replicate z 0))) ∧ Below w.heap.size w wr)
        (fun bv _ => s.size + 1 + padZ s.size - lenV bv)
      case atStart => exact ⟨0, by omega, ⟨g1, c1, rfl⟩, Hown, bS⟩
      case round =>
        obtain ⟨z, hz, ⟨g, cap, rfl⟩, Ho, bR⟩ := hrel
        clear Hown bS
        have hpz : padZ s.size ≤ 63 := by unfold padZ; omega
        by_cases hlt : z < padZ s.size
        · have hn : (((s.size : Int) + 1 + (z : Int)) % 64 != 56) = true := by
            rw [bne_iff_ne]; unfold padZ at hlt hz; omega
          have Hc : Hid (cells8 (s.data.toList ++ 128 :: List.replicate (z + 1) 0) = cells8 (s.data.toList ++ 128 :: List.replicate z 0) ++ [.int .u8 0]) := Lib.hid (by
            have h := cells8_snoc (s.data.toList ++ 128 :: List.replicate z 0) 0 0 rfl
            rw [← h, List.replicate_succ']; simp)
          go_wp2_with (at_builtin; refine wpList_append_own _ rfl _ _ 94 rfl w.heap.size 5 i0 (.int .u8 0) 1 1 Tryz.underlying94 hi hz0 hz1 hz2 rfl (by decide) _ _ _ rfl (Ho.out.alloc _) ⟨wr.heap.size, 0, none⟩ 1 1 [.int .u8 0] rfl rfl ?e1 ?e2 ?e3 ?e4 ?e5 ?_)
          case e1 => exact cell_one_new _ _ _
          case e2 => simp [Value.oneCell']
          case e3 => unfold maxLen; omega
          case e4 => omega
          case e5 => have := bR.size; simp; omega
          intro v' w1 hown' hgrow _
          have bS : Below w.heap.size w w1 := (bR.alloc bR.size _).grown hgrow (by have := bR.size; simp; omega) (fun q e => (Ho.out.lt q e).1)
          rw [← Hc.out] at hown'
          obtain ⟨g2, c2, rfl⟩ := ownsRow_succ hown'
          have Hown := Lib.hid hown'
          clear hown' hgrow Hc hn
          go_wp2_with fail
          go_roundw
          case rel => exact ⟨z + 1, by omega, ⟨g2, c2, rfl⟩, Hown, bS⟩
          case measure => simp [lenV]; omega
        · obtain rfl : z = padZ s.size := by omega
          have hn : (((s.size : Int) + 1 + (padZ s.size : Int)) % 64 != 56) = false := by
            rw [bne_eq_false_iff_eq]; unfold padZ; omega
          clear hlt hz
          go_wp2_with fail
          have hT : (padT s).length = s.size + 1 + padZ s.size := by simp [padT]; omega
          have H3 : Hid (wr.ownsRow w.heap.size 5 1 (.slice (some ⟨g, 0, none⟩) (s.size + 1 + padZ s.size) cap) (s.size + 1 + padZ s.size + 0) (cells8 (padT s ++ (be8 (8 * s.size)).take 0))) := Lib.hid (by
            have := Ho.out
            simpa [padT] using this)
          clear hn Ho
          generalize padZ s.size = Z at H3 hpz hT ⊢
          go_loopw [3, 5] (fun bv iv wr => ∃ j : Nat, j ≤ 8 ∧ iv = .int .i64 (7 - (j : Int)) ∧ (∃ g cap, bv = .slice (some ⟨g, 0, none⟩) (s.size + 1 + Z + j) cap) ∧ Hid (wr.ownsRow w.heap.size 5 1 bv (s.size + 1 + Z + j) (cells8 (padT s ++ (be8 (8 * s.size)).take j))) ∧ Below w.heap.size w wr)
            (fun _ iv _ => (intOf iv + 1).toNat)
          case atStart => exact ⟨0, by omega, by go_num, ⟨g, cap, rfl⟩, H3, bR⟩
          case round =>
            obtain ⟨j, hj, rfl, ⟨g, cap, rfl⟩, Ho, bR⟩ := hrel
            clear H3
            by_cases hlt : j < 8
            · have hj0 : (0 : Int) ≤ 7 - (j : Int) := by omega
              have Hc : Hid (cells8 (padT s ++ (be8 (8 * s.size)).take (j + 1)) = cells8 (padT s ++ (be8 (8 * s.size)).take j) ++ [.int .u8 (8 * (s.size : Int) / 2 ^ (8 * (7 - j)) % 256)]) := Lib.hid (by
                rw [be8_snoc _ _ hlt, ← List.append_assoc]
                exact cells8_snoc _ _ _ (by simp))
              go_wp2_with (at_builtin; refine wpList_append_own _ rfl _ _ 94 rfl w.heap.size 5 i0 (.int .u8 0) 1 1 Tryz.underlying94 hi hz0 hz1 hz2 rfl (by decide) _ _ _ rfl (Ho.out.alloc _) ⟨wr.heap.size, 0, none⟩ 1 1 [.int .u8 (8 * (s.size : Int) / 2 ^ (8 * (7 - j)) % 256)] rfl rfl ?f1 ?f2 ?f3 ?f4 ?f5 ?_)
              case f1 => exact cell_one_new _ _ _
              case f2 => simp [Value.oneCell']
              case f3 => unfold maxLen; omega
              case f4 => omega
              case f5 => have := bR.size; simp; omega
              intro v' w1 hown' hgrow _
              have bS : Below w.heap.size w w1 := (bR.alloc bR.size _).grown hgrow (by have := bR.size; simp; omega) (fun q e => (Ho.out.lt q e).1)
              rw [← Hc.out] at hown'
              obtain ⟨g2, c2, rfl⟩ := ownsRow_succ hown'
              have Hown := Lib.hid hown'
              clear hown' hgrow Hc hj0
              go_wp2_with fail
              go_roundw
              case rel => exact ⟨j + 1, by omega, by go_num, ⟨g2, c2, rfl⟩, Hown, bS⟩
              case measure => simp [intOf]; omega
            · obtain rfl : j = 8 := by omega
              clear hlt hj
              go_wp2_with fail
              go_ret
              have h := Ho.out
              rw [List.take_of_length_le (by simp [be8]), ← padF_padT] at h
              have hl : (padF s.data.toList).length = s.size + 1 + Z + 8 := by
                rw [padF_padT, List.length_append, hT]; simp [be8]
              exact ⟨_, rfl, by rw [hl]; exact h, bR⟩
end Go.Proofs.YtnndnjnpkjpkpaaGreatDoor
namespace Go.Proofs.YtnndnjnpkjpkpaaGreatDoor
open Go.RowKit
def WordsAt (w : World) (b o : Nat) (l : List Nat) : Prop := ∀ i : Nat, i < l.length → w.cell? ⟨b, o + i, none⟩ = some (.int .u32 ((l.getD i 0 : Nat) : Int))
def BytesAt (w : World) (b o : Nat) (l : List UInt8) : Prop := ∀ i : Nat, i < l.length → w.cell? ⟨b, o + i, none⟩ = some (.int .u8 (((l.getD i 0).toNat : Nat) : Int))
def listE (v : Eight) : List Nat := [v.a, v.b, v.c, v.d, v.e, v.f, v.g, v.h]
theorem lt_of_cell {w : World} {p : Addr} {v : Value} (h : w.cell? p = some v) : p.block < w.heap.size := World.block_lt_of_cell? w _ h

theorem word_bits (x0 x1 x2 x3 : Nat) (h0 : x0 < 256) (h1 : x1 < 256) (h2 : x2 < 256) (h3 : x3 < 256) :
    bits .or .u32 (bits .or .u32 (bits .or .u32 ((x0 : Int) % 4294967296 * 16777216 % 4294967296) ((x1 : Int) % 4294967296 * 65536 % 4294967296)) ((x2 : Int) % 4294967296 * 256 % 4294967296)) ((x3 : Int) % 4294967296) =
      ((x0 * 16777216 + x1 * 65536 + x2 * 256 + x3 : Nat) : Int) := by
  have a0 : ((x0 : Int) % 4294967296 * 16777216 % 4294967296) = ((2 ^ 24 * x0 : Nat) : Int) := by omega
  have a1 : ((x1 : Int) % 4294967296 * 65536 % 4294967296) = ((x1 * 65536 : Nat) : Int) := by omega
  have a2 : ((x2 : Int) % 4294967296 * 256 % 4294967296) = ((x2 * 256 : Nat) : Int) := by omega
  have a3 : ((x3 : Int) % 4294967296) = (x3 : Int) := by omega
  rw [a0, a1, a2, a3, u32_or _ _ (by omega) (by omega), ← Nat.two_pow_add_eq_or_of_lt (by omega) x0,
    show 2 ^ 24 * x0 + x1 * 65536 = 2 ^ 16 * (x0 * 256 + x1) by omega, u32_or _ _ (by omega) (by omega), ← Nat.two_pow_add_eq_or_of_lt (by omega),
    show 2 ^ 16 * (x0 * 256 + x1) + x2 * 256 = 2 ^ 8 * ((x0 * 256 + x1) * 256 + x2) by omega, u32_or _ _ (by omega) (by omega), ← Nat.two_pow_add_eq_or_of_lt (by omega)]
  omega
theorem words16_snoc (bl : List UInt8) (k : Nat) (h : k < 16) : (words16 bl).take (k + 1) = (words16 bl).take k ++ [wordN bl k] := by
  have hl : k < (words16 bl).length := by simp [words16]; omega
  rw [List.take_succ_eq_append_getElem hl]
  simp [words16]

theorem wordN_lt (b : List UInt8) (j : Nat) : wordN b j < 4294967296 := by
  unfold wordN
  have h0 := (b.getD (4 * j) 0).toNat_lt
  have h1 := (b.getD (4 * j + 1) 0).toNat_lt
  have h2 := (b.getD (4 * j + 2) 0).toNat_lt
  have h3 := (b.getD (4 * j + 3) 0).toNat_lt
  omega
theorem schedN_lt (w : List Nat) (j : Nat) (hw : ∀ x ∈ w, x < 4294967296) : ∀ x ∈ schedN w j, x < 4294967296 := by
  induction j with
  | zero => exact hw
  | succ j ih =>
    intro x hx
    unfold schedN at hx
    rcases List.mem_append.1 hx with h | h
    · exact ih x h
    · rw [List.mem_singleton] at h
      subst h
      unfold nextW
      omega
theorem words16_lt (b : List UInt8) : ∀ x ∈ words16 b, x < 4294967296 := by
  intro x hx
  unfold words16 at hx
  obtain ⟨j, _, rfl⟩ := List.mem_map.1 hx
  exact wordN_lt b j
theorem getD_lt (l : List Nat) (h : ∀ x ∈ l, x < 4294967296) (j : Nat) : l.getD j 0 < 4294967296 := by
  rw [List.getD_eq_getElem?_getD]
  by_cases hj : j < l.length
  · rw [List.getElem?_eq_getElem hj]; exact h _ (List.getElem_mem _)
  · rw [List.getElem?_eq_none (by omega)]; decide
theorem row32_cell {w : World} {base g n c : Nat} {l : List Nat} (h : w.ownsRow base 92 1 (.slice (some ⟨g, 0, none⟩) n c) n (cells32 l)) (j : Nat) (hj : j < l.length) :
    w.cell? ⟨g, j, none⟩ = some (.int .u32 ((l.getD j 0 : Nat) : Int)) := by
  have h1 : (cells32 l)[j]? = some (.int .u32 ((l.getD j 0 : Nat) : Int)) := by
    unfold cells32
    rw [List.getElem?_map, List.getElem?_eq_getElem hj, List.getD_eq_getElem?_getD, List.getElem?_eq_getElem hj]
    rfl
  have h2 := World.ownsRow.cells h rfl _ _ h1
  have e : Addr.add ⟨g, 0, none⟩ j = ⟨g, j, none⟩ := by unfold Addr.add; split <;> simp_all
  rw [e] at h2
  exact h2
theorem rotated_quiet (x : Nat) (z : Int) (w : World) (N : Nat) (hx : x < 4294967296) (h1 : 1 ≤ z) (hn : z ≤ 31) :
    Calls Tryz.prog 87 #[.int .u32 (x : Int), .int .i64 z] (w.drewN N) fun e w' => e = .returned (.int .u32 ((rotN x z.toNat : Nat) : Int)) ∧ ∃ m, w' = w.drewN m := by
  obtain ⟨n, rfl⟩ := Int.eq_ofNat_of_zero_le (show 0 ≤ z by omega)
  exact Calls.quiet_of ((rotated_calls x n _ hx (by omega) (by omega)).mono fun _ _ ⟨he, hw⟩ => ⟨he, 1, hw⟩)
theorem xor3 (a b c : Nat) (ha : a < 4294967296) (hb : b < 4294967296) (hc : c < 4294967296) : bits .xor .u32 (bits .xor .u32 (a : Int) (b : Int)) (c : Int) = (((a ^^^ b) ^^^ c : Nat) : Int) := by
  have h : a ^^^ b < 2 ^ 32 := Nat.xor_lt_two_pow (by omega) (by omega)
  rw [u32_xor a b ha hb, u32_xor _ _ (by omega) hc]
theorem sum4_walk (a b c d : Nat) : IntKind.u32.wrap (IntKind.u32.wrap (IntKind.u32.wrap ((a : Int) + (b : Int)) + (c : Int)) + (d : Int)) = (((((a + b) % 4294967296 + c) % 4294967296 + d) % 4294967296 : Nat) : Int) := by
  show ((((a : Int) + (b : Int)) % 4294967296 + (c : Int)) % 4294967296 + (d : Int)) % 4294967296 = _
  omega
theorem sig0_walk (x : Nat) (h : x < 4294967296) : bits .xor .u32 (bits .xor .u32 ((rotN x 7 : Nat) : Int) ((rotN x 18 : Nat) : Int)) ((x : Int) / 8) = ((sig0 x : Nat) : Int) := by
  have e : (x : Int) / (8 : Int) = ((x >>> 3 : Nat) : Int) := by rw [Nat.shiftRight_eq_div_pow]; simp
  rw [e, xor3 _ _ _ (rotN_lt _ _ h) (rotN_lt _ _ h) (by rw [Nat.shiftRight_eq_div_pow]; omega)]
  rfl
theorem sig1_walk (x : Nat) (h : x < 4294967296) : bits .xor .u32 (bits .xor .u32 ((rotN x 17 : Nat) : Int) ((rotN x 19 : Nat) : Int)) ((x : Int) / 1024) = ((sig1 x : Nat) : Int) := by
  have e : (x : Int) / (1024 : Int) = ((x >>> 10 : Nat) : Int) := by rw [Nat.shiftRight_eq_div_pow]; simp
  rw [e, xor3 _ _ _ (rotN_lt _ _ h) (rotN_lt _ _ h) (by rw [Nat.shiftRight_eq_div_pow]; omega)]
  rfl

def okE (v : Eight) : Prop := v.a < 4294967296 ∧ v.b < 4294967296 ∧ v.c < 4294967296 ∧ v.d < 4294967296 ∧ v.e < 4294967296 ∧ v.f < 4294967296 ∧ v.g < 4294967296 ∧ v.h < 4294967296
theorem stepE_ok (v : Eight) (k w : Nat) (h : okE v) : okE (stepE v k w) := by
  obtain ⟨h1, h2, h3, h4, h5, h6, h7, h8⟩ := h
  exact ⟨Nat.mod_lt _ (by omega), h1, h2, h3, Nat.mod_lt _ (by omega), h5, h6, h7⟩
theorem roundsN_ok (w : List Nat) (v : Eight) (i : Nat) (h : okE v) : okE (roundsN w v i) := by
  induction i with
  | zero => exact h
  | succ i ih => exact stepE_ok _ _ _ ih
theorem addE_ok (v x : Eight) : okE (addE v x) := ⟨Nat.mod_lt _ (by omega), Nat.mod_lt _ (by omega), Nat.mod_lt _ (by omega), Nat.mod_lt _ (by omega), Nat.mod_lt _ (by omega), Nat.mod_lt _ (by omega), Nat.mod_lt _ (by omega), Nat.mod_lt _ (by omega)⟩
theorem not32 (x : Nat) (h : x < 4294967296) : bits .xor .u32 IntKind.u32.max (x : Int) = ((4294967295 - x : Nat) : Int) := by
  have h1 := u32_xor 4294967295 x (by omega) h
  have h2 : 4294967295 ^^^ x = 4294967295 - x := by
    have e := congrArg BitVec.toNat (BitVec.xor_allOnes (x := BitVec.ofNat 32 x))
    rw [BitVec.toNat_xor, BitVec.toNat_not, BitVec.toNat_ofNat, BitVec.toNat_allOnes, Nat.mod_eq_of_lt (by omega)] at e
    rw [Nat.xor_comm]
    exact e
  rw [← h2, ← h1]
  rfl
theorem and_lt32 (x y : Nat) (h : y < 4294967296) : x &&& y < 4294967296 := by
  have : x &&& y < 2 ^ 32 := Nat.and_lt_two_pow _ (by omega)
  omega
theorem t_walk (xa xb xc xd xe xf xg xh K X : Nat) (h5 : xe < 4294967296) (h6 : xf < 4294967296) (h7 : xg < 4294967296) :
    (((xh : Int) + bits BinOp.xor IntKind.u32 (bits BinOp.xor IntKind.u32 ((rotN xe 6 : Nat) : Int) ((rotN xe 11 : Nat) : Int)) ((rotN xe 25 : Nat) : Int) +
      bits BinOp.xor IntKind.u32 (bits BinOp.and IntKind.u32 (xe : Int) (xf : Int)) (bits BinOp.and IntKind.u32 (bits BinOp.xor IntKind.u32 IntKind.u32.max (xe : Int)) (xg : Int)) + (K : Int) + (X : Int)) % 4294967296) =
    ((tN ⟨xa, xb, xc, xd, xe, xf, xg, xh⟩ K X : Nat) : Int) := by
  rw [xor3 _ _ _ (rotN_lt _ _ h5) (rotN_lt _ _ h5) (rotN_lt _ _ h5), not32 _ h5, u32_and _ _ h5 h6, u32_and _ _ (by omega) h7, u32_xor _ _ (and_lt32 _ _ h6) (and_lt32 _ _ h7)]
  unfold tN eps1 chN
  dsimp only
  omega
theorem u_walk (xa xb xc xd xe xf xg xh : Nat) (h1 : xa < 4294967296) (h2 : xb < 4294967296) (h3 : xc < 4294967296) :
    ((bits BinOp.xor IntKind.u32 (bits BinOp.xor IntKind.u32 ((rotN xa 2 : Nat) : Int) ((rotN xa 13 : Nat) : Int)) ((rotN xa 22 : Nat) : Int) +
      bits BinOp.xor IntKind.u32 (bits BinOp.xor IntKind.u32 (bits BinOp.and IntKind.u32 (xa : Int) (xb : Int)) (bits BinOp.and IntKind.u32 (xa : Int) (xc : Int))) (bits BinOp.and IntKind.u32 (xb : Int) (xc : Int))) % 4294967296) =
    ((uN ⟨xa, xb, xc, xd, xe, xf, xg, xh⟩ : Nat) : Int) := by
  rw [xor3 _ _ _ (rotN_lt _ _ h1) (rotN_lt _ _ h1) (rotN_lt _ _ h1), u32_and _ _ h1 h2, u32_and _ _ h1 h3, u32_and _ _ h2 h3, xor3 _ _ _ (and_lt32 _ _ h2) (and_lt32 _ _ h3) (and_lt32 _ _ h3)]
  unfold uN eps0 majN
  dsimp only
  omega
theorem addE_at (v x : Eight) (k : Nat) (h : k < 8) : (listE (addE v x)).take (k + 1) = (listE (addE v x)).take k ++ [((listE v).getD k 0 + (listE x).getD k 0) % 4294967296] := by
  match k, h with
  | 0, _ => rfl
  | 1, _ => rfl
  | 2, _ => rfl
  | 3, _ => rfl
  | 4, _ => rfl
  | 5, _ => rfl
  | 6, _ => rfl
  | 7, _ => rfl
theorem sum2_walk (a b : Nat) : IntKind.u32.wrap ((a : Int) + (b : Int)) = (((a + b) % 4294967296 : Nat) : Int) := by
  show ((a : Int) + (b : Int)) % 4294967296 = _
  omega
theorem WordsAt.keep {w w' : World} {b o : Nat} {l : List Nat} (h : WordsAt w b o l) (hb : Below w.heap.size w w') : WordsAt w' b o l := fun i hi =>
  (hb.cell (p := ⟨b, o + i, none⟩) (lt_of_cell (h i hi))).trans (h i hi)
theorem words_row {w : World} {base g n c : Nat} {l : List Nat} (h : w.ownsRow base 92 1 (.slice (some ⟨g, 0, none⟩) n c) n (cells32 l)) : WordsAt w g 0 l := fun i hi => by
  rw [Nat.zero_add]; exact row32_cell h i hi
theorem words_new (w : World) (l : List Nat) (t : TypeId) : WordsAt (w.alloc (.cells (cells32 l).toArray t)) w.heap.size 0 l := fun i hi => by
  rw [cell_of_row _ _ _ _ _ _ (heap_alloc_new w (.cells (cells32 l).toArray t))]
  unfold cells32
  simp only [Nat.zero_add, List.getElem?_toArray, List.getElem?_map, List.getD_eq_getElem?_getD, List.getElem?_eq_getElem hi]
  rfl
theorem constants_calls (w : World) :
    Calls Tryz.prog 88 #[] w fun e W' => (∃ g, e = .returned (.slice (some ⟨g, 0, none⟩) 64 64) ∧ WordsAt W' g 0 shaK) ∧ Below w.heap.size w W' := by
  go_enter Tryz.func88, Tryz.ntmps88
  go_wp2_with fail
  go_ret
  exact ⟨⟨_, rfl, words_new w shaK _⟩, (Below.refl _ _).alloc (Nat.le_refl _) _⟩

set_option maxRecDepth 100000 in
set_option maxHeartbeats 8000000 in
theorem block_calls (v : Eight) (bl : List UInt8) (bh bb ob ch cb : Nat) (w : World) (hl : bl.length = 64) (hok : okE v) (hv : WordsAt w bh 0 (listE v)) (hb : BytesAt w bb ob bl) :
    Calls Tryz.prog 70 #[.slice (some ⟨bh, 0, none⟩) 8 ch, .slice (some ⟨bb, ob, none⟩) 64 cb] w fun e W' => ∃ r, e = .returned r ∧ W'.ownsRow w.heap.size 92 1 r 8 (cells32 (listE (blockE v bl))) ∧ Below w.heap.size w W' := by
  obtain ⟨i0, hi, hz0, hz1, hz2⟩ := info_parts (show (Tryz.prog.info? 92).map (fun i => (i.zero, i.size, i.bytes)) = some (some (.int .u32 0), 1, 4) from by kernel_rfl)
  have HV := Lib.hid hv
  have HB := Lib.hid hb
  have Hl := Lib.hid hl
  have Hok := Lib.hid hok
  have Hbb := Lib.hid (show bb < w.heap.size from lt_of_cell (hb 0 (by omega)))
  clear hv hb hl hok
  go_enter Tryz.func70, Tryz.ntmps70
  go_wp2_with fail
  go_loopw [5, 6] (fun bv iv wr => ∃ k : Nat, k ≤ 16 ∧ iv = .int .i64 k ∧ Hid (wr.ownsRow w.heap.size 92 1 bv k (cells32 ((words16 bl).take k))) ∧ Below w.heap.size w wr)
    (fun _ iv _ => 16 - (intOf iv).toNat)
  case atStart => exact ⟨0, by omega, rfl, Lib.hid (World.ownsRow_nil _ _ _ _), Below.refl _ _⟩
  case round =>
    obtain ⟨k, hk, rfl, Ho, bR⟩ := hrel
    by_cases hlt : k < 16
    · have c0 := HB.out (4 * k) (by have := Hl.out; omega)
      have c1 := HB.out (4 * k + 1) (by have := Hl.out; omega)
      have c2 := HB.out (4 * k + 2) (by have := Hl.out; omega)
      have c3 := HB.out (4 * k + 3) (by have := Hl.out; omega)
      have d0 : wr.cell? ⟨bb, ob + 4 * k, none⟩ = _ := (bR.cell (p := ⟨bb, ob + 4 * k, none⟩) (lt_of_cell c0)).trans c0
      have d1 : wr.cell? ⟨bb, ob + (4 * k + 1), none⟩ = _ := (bR.cell (p := ⟨bb, ob + (4 * k + 1), none⟩) (lt_of_cell c1)).trans c1
      have d2 : wr.cell? ⟨bb, ob + (4 * k + 2), none⟩ = _ := (bR.cell (p := ⟨bb, ob + (4 * k + 2), none⟩) (lt_of_cell c2)).trans c2
      have d3 : wr.cell? ⟨bb, ob + (4 * k + 3), none⟩ = _ := (bR.cell (p := ⟨bb, ob + (4 * k + 3), none⟩) (lt_of_cell c3)).trans c3
      clear c0 c1 c2 c3
      have Hc := Lib.hid (words16_snoc bl k hlt)
      unfold wordN at Hc
      have Hx := Lib.hid (word_bits _ _ _ _ (bl.getD (4 * k) 0).toNat_lt (bl.getD (4 * k + 1) 0).toNat_lt (bl.getD (4 * k + 2) 0).toNat_lt (bl.getD (4 * k + 3) 0).toNat_lt)
      generalize (bl.getD (4 * k) 0).toNat = x0 at d0 Hx Hc
      generalize (bl.getD (4 * k + 1) 0).toNat = x1 at d1 Hx Hc
      generalize (bl.getD (4 * k + 2) 0).toNat = x2 at d2 Hx Hc
      generalize (bl.getD (4 * k + 3) 0).toNat = x3 at d3 Hx Hc
      have k0 : 4 * (k : Int) < 64 := by omega
      have k1 : 4 * (k : Int) + 1 < 64 := by omega
      have k2 : 4 * (k : Int) + 2 < 64 := by omega
      have k3 : 4 * (k : Int) + 3 < 64 := by omega
      have kk : 0 ≤ 4 * (k : Int) := by omega
      have q1 : 0 ≤ 4 * (k : Int) + 1 := by omega
      have q2 : 0 ≤ 4 * (k : Int) + 2 := by omega
      have q3 : 0 ≤ 4 * (k : Int) + 3 := by omega
      have t0 : (4 * (k : Int)).toNat = 4 * k := by omega
      have t1 : (4 * (k : Int) + 1).toNat = 4 * k + 1 := by omega
      have t2 : (4 * (k : Int) + 2).toNat = 4 * k + 2 := by omega
      have t3 : (4 * (k : Int) + 3).toNat = 4 * k + 3 := by omega
      have e0 : IntKind.i64.wrap (4 * (k : Int)) = 4 * (k : Int) := IntWalk.i64_in _ (by omega)
      have e1 : IntKind.i64.wrap (4 * (k : Int) + 1) = 4 * (k : Int) + 1 := IntWalk.i64_in _ (by omega)
      have e2 : IntKind.i64.wrap (4 * (k : Int) + 2) = 4 * (k : Int) + 2 := IntWalk.i64_in _ (by omega)
      have e3 : IntKind.i64.wrap (4 * (k : Int) + 3) = 4 * (k : Int) + 3 := IntWalk.i64_in _ (by omega)
      go_wp2_with fail
      have h63 : k + 1 ≤ maxLen := by unfold maxLen; omega
      have hby : (k + 1) * 4 ≤ 140737488355328 := by omega
      have hne : u5.ownBlock ≠ some bb := fun e => by
        have h1 := (Ho.out.lt bb e).1
        have h2 := Hbb.out
        omega
      have hsz := Lib.hid bR.size
      have Hlt := Lib.hid (lt_of_cell d0)
      go_region_held3 (fun w' => w'.cell? ⟨bb, ob + 4 * k, none⟩ = some (.int .u8 (x0 : Int)) ∧ w'.cell? ⟨bb, ob + (4 * k + 1), none⟩ = some (.int .u8 (x1 : Int)) ∧ w'.cell? ⟨bb, ob + (4 * k + 2), none⟩ = some (.int .u8 (x2 : Int)) ∧ w'.cell? ⟨bb, ob + (4 * k + 3), none⟩ = some (.int .u8 (x3 : Int)))
        (first
          | go_keep
          | (go_split_ands
             refine ⟨?_, ?_, ?_, ?_⟩ <;> (rw [hgrow.cell_far _ (by simp; have := Hlt.out; simp at this; omega) (Ne.symm hne)]; assumption)))
        ((refine step_append_lies _ (by rfl) _ _ _ (by rfl) w.heap.size 92 i0 _ 1 4 Tryz.underlying93 hi hz0 hz1 hz2 rfl (by omega) u5 k _ (by rfl) ((Ho.out.alloc _).drew)
              ⟨wr.heap.size, 0, none⟩ 1 1 [.int .u32 (bits .or .u32 (bits .or .u32 (bits .or .u32 (IntKind.u32.wrap (IntKind.u32.wrap (x0 : Int) * 16777216)) (IntKind.u32.wrap (IntKind.u32.wrap (x1 : Int) * 65536))) (IntKind.u32.wrap (IntKind.u32.wrap (x2 : Int) * 256))) (IntKind.u32.wrap (x3 : Int)))] (by rfl) (by rfl)
              (World.news_of_block (cs := #[.int .u32 (bits .or .u32 (bits .or .u32 (bits .or .u32 (IntKind.u32.wrap (IntKind.u32.wrap (x0 : Int) * 16777216)) (IntKind.u32.wrap (IntKind.u32.wrap (x1 : Int) * 65536))) (IntKind.u32.wrap (IntKind.u32.wrap (x2 : Int) * 256))) (IntKind.u32.wrap (x3 : Int)))]) (t := 92) (fr := (0, 0)) (heap_alloc_new wr _)) (by simp [Value.oneCell'])
              (by omega) h63 hby (by simp; have := hsz.out; omega) (wr.heap.size + 1) (by simp) ?_; intro gg cap w1 hown1 hgrow hat hlt))
      have bS : Below w.heap.size w w1 := ((bR.alloc bR.size _).drew).grown hgrow (by have := hsz.out; simp; omega) (fun q e => (Ho.out.lt q e).1)
      have hx2 : bits .or .u32 (bits .or .u32 (bits .or .u32 (IntKind.u32.wrap (IntKind.u32.wrap (x0 : Int) * 16777216)) (IntKind.u32.wrap (IntKind.u32.wrap (x1 : Int) * 65536))) (IntKind.u32.wrap (IntKind.u32.wrap (x2 : Int) * 256))) (IntKind.u32.wrap (x3 : Int)) = ((x0 * 16777216 + x1 * 65536 + x2 * 256 + x3 : Nat) : Int) := Hx.out
      rw [hx2, ← cells32_snoc, ← Hc.out] at hown1
      have Hown := Lib.hid hown1
      clear hown1 hgrow hat hlt hx2 t0 t1 t2 t3 e0 e1 e2 e3 q1 q2 q3 kk k0 k1 k2 k3 d0 d1 d2 d3 hne
      go_wp2_with fail
      go_roundw
      case rel => exact ⟨k + 1, by omega, by go_num, Hown, bS⟩
      case measure => simp [intOf]; omega
    · obtain rfl : k = 16 := by omega
      obtain ⟨g0, c0, rfl⟩ := ownsRow_succ Ho.out
      have Hs : Hid (wr.ownsRow w.heap.size 92 1 (.slice (some ⟨g0, 0, none⟩) 16 c0) 16 (cells32 (schedN (words16 bl) (16 - 16)))) := Lib.hid (by
        have h := Ho.out
        rw [List.take_of_length_le (by simp [words16])] at h
        exact h)
      clear hlt hk Ho
      rw [show ((16 : Nat) : Int) = 16 from rfl]
      go_wp2_with fail
      go_loopw [5, 7] (fun bv iv wr => ∃ i : Nat, 16 ≤ i ∧ i ≤ 64 ∧ iv = .int .i64 i ∧ (∃ g c, bv = .slice (some ⟨g, 0, none⟩) i c) ∧ Hid (wr.ownsRow w.heap.size 92 1 bv i (cells32 (schedN (words16 bl) (i - 16)))) ∧ Below w.heap.size w wr)
        (fun _ iv _ => 64 - (intOf iv).toNat)
      case atStart => exact ⟨16, by omega, by omega, rfl, ⟨g0, c0, rfl⟩, Hs, bR⟩
      case round =>
        obtain ⟨i, hi1, hi2, rfl, ⟨g, c, rfl⟩, Ho, bR⟩ := hrel
        clear Hs
        by_cases hlt : i < 64
        · have hLl : (schedN (words16 bl) (i - 16)).length = i := by rw [schedN_length]; simp [words16]; omega
          have hLb := schedN_lt (words16 bl) (i - 16) (words16_lt bl)
          have Hnext : Hid (schedN (words16 bl) (i + 1 - 16) = schedN (words16 bl) (i - 16) ++ [nextW (schedN (words16 bl) (i - 16))]) := Lib.hid (by
            rw [show i + 1 - 16 = (i - 16) + 1 by omega]; rfl)
          have HN : Hid (nextW (schedN (words16 bl) (i - 16)) = ((((schedN (words16 bl) (i - 16)).getD (i - 16) 0 + sig0 ((schedN (words16 bl) (i - 16)).getD (i - 15) 0)) % 4294967296 + (schedN (words16 bl) (i - 16)).getD (i - 7) 0) % 4294967296 + sig1 ((schedN (words16 bl) (i - 16)).getD (i - 2) 0)) % 4294967296) := Lib.hid (by
            unfold nextW; rw [hLl])
          have c16 := row32_cell Ho.out (i - 16) (by omega)
          have c15 := row32_cell Ho.out (i - 15) (by omega)
          have c7 := row32_cell Ho.out (i - 7) (by omega)
          have c2 := row32_cell Ho.out (i - 2) (by omega)
          have b16 := getD_lt _ hLb (i - 16)
          have b15 := getD_lt _ hLb (i - 15)
          have b7 := getD_lt _ hLb (i - 7)
          have b2 := getD_lt _ hLb (i - 2)
          clear hLb hLl
          generalize hL : schedN (words16 bl) (i - 16) = L at *
          have HL := Lib.hid hL
          clear hL
          generalize L.getD (i - 16) 0 = x16 at *
          generalize L.getD (i - 15) 0 = x15 at *
          generalize L.getD (i - 7) 0 = x7 at *
          generalize L.getD (i - 2) 0 = x2 at *
          have S0 := Lib.hid (sig0_walk x15 b15)
          have S1 := Lib.hid (sig1_walk x2 b2)
          have l15 : (i : Int) - 15 < (i : Int) := by omega
          have l2 : (i : Int) - 2 < (i : Int) := by omega
          have l16 : (i : Int) - 16 < (i : Int) := by omega
          have l7 : (i : Int) - 7 < (i : Int) := by omega
          have p15 : 0 ≤ (i : Int) - 15 := by omega
          have p2 : 0 ≤ (i : Int) - 2 := by omega
          have p16 : 0 ≤ (i : Int) - 16 := by omega
          have p7 : 0 ≤ (i : Int) - 7 := by omega
          have t15 : ((i : Int) - 15).toNat = i - 15 := by omega
          have t2 : ((i : Int) - 2).toNat = i - 2 := by omega
          have t16 : ((i : Int) - 16).toNat = i - 16 := by omega
          have t7 : ((i : Int) - 7).toNat = i - 7 := by omega
          have e15 : IntKind.i64.wrap ((i : Int) - 15) = (i : Int) - 15 := IntWalk.i64_in _ (by omega)
          have e2 : IntKind.i64.wrap ((i : Int) - 2) = (i : Int) - 2 := IntWalk.i64_in _ (by omega)
          have e16 : IntKind.i64.wrap ((i : Int) - 16) = (i : Int) - 16 := IntWalk.i64_in _ (by omega)
          have e7 : IntKind.i64.wrap ((i : Int) - 7) = (i : Int) - 7 := IntWalk.i64_in _ (by omega)
          go_wp2_with fail
          go_quiet ((go_at_call 87; exact rotated_quiet _ _ _ _ b15 (by omega) (by omega)))
          go_wp2_with fail
          rw [S0.out]
          obtain ⟨w2, hw2, f16, f7, f2, Ho2, bR2⟩ : ∃ w2, wr.drewN nq = w2 ∧ w2.cell? ⟨g, i - 16, none⟩ = some (.int .u32 (x16 : Int)) ∧ w2.cell? ⟨g, i - 7, none⟩ = some (.int .u32 (x7 : Int)) ∧ w2.cell? ⟨g, i - 2, none⟩ = some (.int .u32 (x2 : Int)) ∧ Hid (w2.ownsRow w.heap.size 92 1 (.slice (some ⟨g, 0, none⟩) i c) i (cells32 L)) ∧ Below w.heap.size w w2 :=
            ⟨_, rfl, c16, c7, c2, Lib.hid Ho.out, below_drewN bR nq⟩
          rw [hw2]
          clear hw2 c16 c15 c7 c2 Ho bR
          go_quiet ((go_at_call 87; exact rotated_quiet _ _ _ _ b2 (by omega) (by omega)))
          go_wp2_with fail
          rw [S1.out]
          obtain ⟨w3, hw3, g16, g7, Ho3, bR3⟩ : ∃ w3, w2.drewN nq = w3 ∧ w3.cell? ⟨g, i - 16, none⟩ = some (.int .u32 (x16 : Int)) ∧ w3.cell? ⟨g, i - 7, none⟩ = some (.int .u32 (x7 : Int)) ∧ Hid (w3.ownsRow w.heap.size 92 1 (.slice (some ⟨g, 0, none⟩) i c) i (cells32 L)) ∧ Below w.heap.size w w3 :=
            ⟨_, rfl, f16, f7, Lib.hid Ho2.out, below_drewN bR2 nq⟩
          rw [hw3]
          clear hw3 f16 f7 f2 Ho2 bR2 nq
          have h63 : i + 1 ≤ maxLen := by unfold maxLen; omega
          have r16 : (16 : Int) ≤ (i : Int) := by omega
          have r7 : (7 : Int) ≤ (i : Int) := by omega
          have hby : (i + 1) * 4 ≤ 140737488355328 := by omega
          have hsz := Lib.hid bR3.size
          go_region_law
            ((refine step_append_lies _ (by rfl) _ _ _ (by rfl) w.heap.size 92 i0 _ 1 4 Tryz.underlying93 hi hz0 hz1 hz2 rfl (by omega) (.slice (some ⟨g, 0, none⟩) i c) i _ (by rfl) ((Ho3.out.alloc _).drew)
                  ⟨w3.heap.size, 0, none⟩ 1 1 [.int .u32 (IntKind.u32.wrap (IntKind.u32.wrap (IntKind.u32.wrap ((x16 : Int) + ((sig0 x15 : Nat) : Int)) + (x7 : Int)) + ((sig1 x2 : Nat) : Int)))] (by rfl) (by rfl)
                  (World.news_of_block (cs := #[.int .u32 (IntKind.u32.wrap (IntKind.u32.wrap (IntKind.u32.wrap ((x16 : Int) + ((sig0 x15 : Nat) : Int)) + (x7 : Int)) + ((sig1 x2 : Nat) : Int)))]) (t := 92) (fr := (0, 0)) (heap_alloc_new w3 _)) (by simp [Value.oneCell'])
                  (by omega) h63 hby (by simp; have := hsz.out; omega) (w3.heap.size + 1) (by simp) ?_; intro gg cap w1 hown1 hgrow hat hlt))
          all_goals
            have bS : Below w.heap.size w w1 := ((bR3.alloc bR3.size _).drew).grown hgrow (by have := hsz.out; simp; omega) (fun q e => (Ho3.out.lt q e).1)
            rw [sum4_walk, ← HN.out, ← cells32_snoc, ← Hnext.out] at hown1
            have Hown := Lib.hid hown1
            clear hown1 hgrow hat hlt t15 t2 t16 t7 e15 e2 e16 e7 g16 g7 HN Hnext HL S0 S1
            go_wp2_with fail
            go_roundw
            case rel => exact ⟨i + 1, by omega, by omega, by go_num, ⟨gg, cap, rfl⟩, Hown, bS⟩
            case measure => simp [intOf]; omega
        · obtain rfl : i = 64 := by omega
          have HW := Lib.hid (show (schedN (words16 bl) 48).length = 64 from by rw [schedN_length]; rfl)
          clear hlt hi1 hi2
          go_wp2_with fail
          refine (constants_calls _).mono ?_
          rintro e wk ⟨⟨gk, rfl, hK⟩, bK⟩
          have HK := Lib.hid hK
          have HWd := Lib.hid ((words_row Ho.out).keep bK)
          have bR4 := bR.trans (bK.mono bR.size)
          have HVd := Lib.hid (HV.out.keep (bR4.mono (Nat.le_refl _)))
          clear hK bK Ho bR
          rw [show ((64 : Nat) : Int) = 64 from rfl]
          go_wp2_with (at_builtin; refine wpList_append_own _ rfl _ _ 93 rfl w.heap.size 92 i0 (.int .u32 0) 1 4 Tryz.underlying93 hi hz0 hz1 hz2 rfl (by decide) _ 0 [] rfl (World.ownsRow_nil _ _ _ _) ⟨bh, 0, none⟩ 8 ch (cells32 (listE v)) rfl rfl ?b1 ?b2 ?b3 ?b4 ?b5 ?_)
          case b1 =>
            intro j u hu
            have e : Addr.add ⟨bh, 0, none⟩ j = ⟨bh, 0 + j, none⟩ := by unfold Addr.add; split <;> simp_all
            have hj : j < (listE v).length := by
              have h := (List.getElem?_eq_some_iff.1 hu).1
              rw [cells32_length] at h; exact h
            rw [e, HVd.out j hj, ← hu]
            unfold cells32
            rw [List.getElem?_map, List.getElem?_eq_getElem hj, List.getD_eq_getElem?_getD, List.getElem?_eq_getElem hj]
            rfl
          case b2 => intro u hu; obtain ⟨x, _, rfl⟩ := List.mem_map.1 hu; rfl
          case b3 => unfold maxLen; omega
          case b4 => omega
          case b5 => exact bR4.size
          intro v' w1 hown' hgrow _
          have bS : Below w.heap.size w w1 := bR4.grown hgrow bR4.size (fun q e => by simp [Value.ownBlock] at e)
          have bG : Below wk.heap.size wk w1 := (Below.refl _ _).grown hgrow (Nat.le_refl _) (fun q e => by simp [Value.ownBlock] at e)
          have hown2 : w1.ownsRow w.heap.size 92 1 v' 8 (cells32 (listE v)) := hown'
          obtain ⟨gv, cv, rfl, _⟩ := hown2.form (by omega)
          have HX := Lib.hid (words_row hown2)
          clear hown2
          have HK1 := Lib.hid (HK.out.keep bG)
          have HW1 := Lib.hid (HWd.out.keep bG)
          clear hown' hgrow bG HK HWd HVd bR4
          go_wp2_with fail
          obtain ⟨W, hW⟩ : ∃ W, schedN (words16 bl) 48 = W := ⟨_, rfl⟩
          have hWl : W.length = 64 := by rw [← hW, schedN_length]; rfl
          have hWb : ∀ j, W.getD j 0 < 4294967296 := fun j => by rw [← hW]; exact getD_lt _ (schedN_lt _ _ (words16_lt bl)) j
          have hKb : ∀ j, shaK.getD j 0 < 4294967296 := getD_lt _ (by decide)
          have HW2 : Hid (WordsAt w1 g 0 W) := Lib.hid (by rw [← hW]; exact HW1.out)
          have Hbl : Hid (blockE v bl = addE v (roundsN W v 64)) := Lib.hid (by rw [← hW]; rfl)
          have HWL := Lib.hid hWl
          have HWB := Lib.hid hWb
          have HKB := Lib.hid hKb
          clear hW hWl hWb hKb HW1 HW
          go_loopw [11, 12] (fun vv iv wr => ∃ i gv cv : Nat, i ≤ 64 ∧ iv = .int .i64 i ∧ vv = .slice (some ⟨gv, 0, none⟩) 8 cv ∧ Hid (WordsAt wr gv 0 (listE (roundsN W v i))) ∧ Hid (WordsAt wr gk 0 shaK) ∧ Hid (WordsAt wr g 0 W) ∧ Below w.heap.size w wr)
            (fun _ iv _ => 64 - (intOf iv).toNat)
          case atStart => exact ⟨0, gv, cv, by omega, rfl, rfl, HX, HK1, HW2, bS⟩
          case round =>
            obtain ⟨i, gv, cv, hi1, rfl, rfl, HX, HK, HW, bR⟩ := hrel
            clear HK1 HW2 bS
            by_cases hlt : i < 64
            · obtain ⟨x, hx⟩ : ∃ x, roundsN W v i = x := ⟨_, rfl⟩
              have Hnext : Hid (roundsN W v (i + 1) = stepE x (shaK.getD i 0) (W.getD i 0)) := Lib.hid (by rw [← hx]; rfl)
              have hxo : okE x := by rw [← hx]; exact roundsN_ok _ _ _ Hok.out
              have HX2 := HX.out
              rw [hx] at HX2
              clear hx HX
              obtain ⟨xa, xb, xc, xd, xe, xf, xg, xh⟩ := x
              obtain ⟨o1, o2, o3, o4, o5, o6, o7, o8⟩ := hxo
              dsimp only at o1 o2 o3 o4 o5 o6 o7 o8
              have va : wr.cell? ⟨gv, 0, none⟩ = some (.int .u32 (xa : Int)) := HX2 0 (show 0 < 8 by decide)
              have vb : wr.cell? ⟨gv, 1, none⟩ = some (.int .u32 (xb : Int)) := HX2 1 (show 1 < 8 by decide)
              have vc : wr.cell? ⟨gv, 2, none⟩ = some (.int .u32 (xc : Int)) := HX2 2 (show 2 < 8 by decide)
              have vd : wr.cell? ⟨gv, 3, none⟩ = some (.int .u32 (xd : Int)) := HX2 3 (show 3 < 8 by decide)
              have ve : wr.cell? ⟨gv, 4, none⟩ = some (.int .u32 (xe : Int)) := HX2 4 (show 4 < 8 by decide)
              have vf : wr.cell? ⟨gv, 5, none⟩ = some (.int .u32 (xf : Int)) := HX2 5 (show 5 < 8 by decide)
              have vg : wr.cell? ⟨gv, 6, none⟩ = some (.int .u32 (xg : Int)) := HX2 6 (show 6 < 8 by decide)
              have vh : wr.cell? ⟨gv, 7, none⟩ = some (.int .u32 (xh : Int)) := HX2 7 (show 7 < 8 by decide)
              have ck := HK.out i (by show i < 64; exact hlt)
              have cw := HW.out i (by rw [HWL.out]; exact hlt)
              rw [Nat.zero_add] at ck cw
              have hkb := HKB.out i
              have hwb := HWB.out i
              clear HX2
              generalize shaK.getD i 0 = K at *
              generalize W.getD i 0 = X at *
              go_wp2_with fail
              go_quiet ((go_at_call 87; exact rotated_quiet _ _ _ _ o5 (by omega) (by omega)))
              go_wp2_with fail
              rw [t_walk xa xb xc xd xe xf xg xh K X o5 o6 o7]
              obtain ⟨t, ht⟩ : ∃ t, tN ⟨xa, xb, xc, xd, xe, xf, xg, xh⟩ K X = t := ⟨_, rfl⟩
              have htb : t < 4294967296 := by rw [← ht]; exact Nat.mod_lt _ (by omega)
              rw [ht]
              have HT := Lib.hid ht
              clear ht ck cw ve vh hkb hwb
              obtain ⟨w2, hw2, va, vb, vc, vd, vf, vg, HK2, HW2, bR2⟩ : ∃ w2, wr.drewN nq = w2 ∧ w2.cell? ⟨gv, 0, none⟩ = some (.int .u32 (xa : Int)) ∧ w2.cell? ⟨gv, 1, none⟩ = some (.int .u32 (xb : Int)) ∧ w2.cell? ⟨gv, 2, none⟩ = some (.int .u32 (xc : Int)) ∧ w2.cell? ⟨gv, 3, none⟩ = some (.int .u32 (xd : Int)) ∧
                  w2.cell? ⟨gv, 5, none⟩ = some (.int .u32 (xf : Int)) ∧ w2.cell? ⟨gv, 6, none⟩ = some (.int .u32 (xg : Int)) ∧ Hid (WordsAt w2 gk 0 shaK) ∧ Hid (WordsAt w2 g 0 W) ∧ Below w.heap.size w w2 :=
                ⟨_, rfl, va, vb, vc, vd, vf, vg, Lib.hid HK.out, Lib.hid HW.out, below_drewN bR nq⟩
              rw [hw2]
              clear hw2 HK HW bR nq
              go_quiet ((go_at_call 87; exact rotated_quiet _ _ _ _ o1 (by omega) (by omega)))
              go_wp2_with fail
              rw [u_walk xa xb xc xd xe xf xg xh o1 o2 o3]
              obtain ⟨u, hu⟩ : ∃ u, uN ⟨xa, xb, xc, xd, xe, xf, xg, xh⟩ = u := ⟨_, rfl⟩
              have hub : u < 4294967296 := by rw [← hu]; exact Nat.mod_lt _ (by omega)
              rw [hu]
              have HU := Lib.hid hu
              clear hu
              obtain ⟨w3, hw3, va, vb, vc, vd, vf, vg, HK3, HW3, bR3⟩ : ∃ w3, w2.drewN nq = w3 ∧ w3.cell? ⟨gv, 0, none⟩ = some (.int .u32 (xa : Int)) ∧ w3.cell? ⟨gv, 1, none⟩ = some (.int .u32 (xb : Int)) ∧ w3.cell? ⟨gv, 2, none⟩ = some (.int .u32 (xc : Int)) ∧ w3.cell? ⟨gv, 3, none⟩ = some (.int .u32 (xd : Int)) ∧
                  w3.cell? ⟨gv, 5, none⟩ = some (.int .u32 (xf : Int)) ∧ w3.cell? ⟨gv, 6, none⟩ = some (.int .u32 (xg : Int)) ∧ Hid (WordsAt w3 gk 0 shaK) ∧ Hid (WordsAt w3 g 0 W) ∧ Below w.heap.size w w3 :=
                ⟨_, rfl, va, vb, vc, vd, vf, vg, Lib.hid HK2.out, Lib.hid HW2.out, below_drewN bR2 nq⟩
              rw [hw3]
              clear hw3 HK2 HW2 bR2 nq
              go_still_tail 22, (by kernel_rfl)
              change wpList _ _ _ _ _ w3.drew
              obtain ⟨w4, hw4, HK4, HW4, bR4⟩ : ∃ w4, w3.drew = w4 ∧ Hid (WordsAt w4 gk 0 shaK) ∧ Hid (WordsAt w4 g 0 W) ∧ Below w.heap.size w w4 := ⟨_, rfl, Lib.hid HK3.out, Lib.hid HW3.out, bR3.drew⟩
              rw [hw4]
              clear hw4 HK3 HW3 bR3 va vb vc vd vf vg
              have He : stepE ⟨xa, xb, xc, xd, xe, xf, xg, xh⟩ K X = ⟨(t + u) % 4294967296, xa, xb, xc, (xd + t) % 4294967296, xe, xf, xg⟩ := by
                rw [← HT.out, ← HU.out]; rfl
              rw [He] at Hnext
              clear He HT HU
              go_wp2_with fail
              go_roundw
              case rel => exact ⟨i + 1, w4.heap.size, 8, by omega, by go_num, rfl, Lib.hid (by rw [Hnext.out]; exact words_new w4 (listE ⟨(t + u) % 4294967296, xa, xb, xc, (xd + t) % 4294967296, xe, xf, xg⟩) _), Lib.hid (HK4.out.keep ((Below.refl _ _).alloc (Nat.le_refl _) _)), Lib.hid (HW4.out.keep ((Below.refl _ _).alloc (Nat.le_refl _) _)), bR4.alloc bR4.size _⟩
              case measure => simp [intOf]; omega
            · obtain rfl : i = 64 := by omega
              obtain ⟨x, hx⟩ : ∃ x, roundsN W v 64 = x := ⟨_, rfl⟩
              rw [hx] at HX Hbl
              clear hx hlt hi1 HK HW HWL HWB HKB
              rw [show ((64 : Nat) : Int) = 64 from rfl]
              have HV2 := Lib.hid (HV.out.keep bR)
              have hg1 := Lib.hid (show bh < wr.heap.size from lt_of_cell (HV2.out 0 (show 0 < 8 by decide)))
              have hg2 := Lib.hid (show gv < wr.heap.size from lt_of_cell (HX.out 0 (show 0 < 8 by decide)))
              obtain ⟨ws, hws⟩ : ∃ ws : World, ws = wr := ⟨_, rfl⟩
              rw [← hws] at HV2 HX hg1 hg2 bR
              go_wp2_with fail
              rw [← hws]
              clear hws
              go_loopw [17, 18] (fun ov iv wr => ∃ k : Nat, k ≤ 8 ∧ iv = .int .i64 k ∧ Hid (wr.ownsRow ws.heap.size 92 1 ov k (cells32 ((listE (addE v x)).take k))) ∧ Below ws.heap.size ws wr)
                (fun _ iv _ => 8 - (intOf iv).toNat)
              case atStart => exact ⟨0, by omega, rfl, Lib.hid (World.ownsRow_nil _ _ _ _), Below.refl _ _⟩
              case round =>
                obtain ⟨k, hk, rfl, Ho, bT⟩ := hrel
                by_cases hlt : k < 8
                · have c1 : wr.cell? ⟨bh, 0 + k, none⟩ = _ := (HV2.out.keep bT) k (show k < 8 from hlt)
                  have c2 : wr.cell? ⟨gv, 0 + k, none⟩ = _ := (HX.out.keep bT) k (show k < 8 from hlt)
                  rw [Nat.zero_add] at c1 c2
                  have Hc := Lib.hid (addE_at v x k hlt)
                  generalize (listE v).getD k 0 = p at *
                  generalize (listE x).getD k 0 = q at *
                  have hp1 : u17.ownBlock ≠ some bh := fun e => by
                    have h1 := (Ho.out.lt bh e).1
                    have h2 := hg1.out
                    omega
                  have hp2 : u17.ownBlock ≠ some gv := fun e => by
                    have h1 := (Ho.out.lt gv e).1
                    have h2 := hg2.out
                    omega
                  have hsz := Lib.hid bT.size
                  have hf1 := Lib.hid (lt_of_cell c1)
                  have hf2 := Lib.hid (lt_of_cell c2)
                  have h63 : k + 1 ≤ maxLen := by unfold maxLen; omega
                  have hby : (k + 1) * 4 ≤ 140737488355328 := by omega
                  have k8 : (k : Int) < 8 := by omega
                  have k0 : 0 ≤ (k : Int) := by omega
                  go_wp2_with fail
                  go_region_held3 (fun w' => w'.cell? ⟨bh, k, none⟩ = some (.int .u32 (p : Int)) ∧ w'.cell? ⟨gv, k, none⟩ = some (.int .u32 (q : Int)))
                    (first
                      | go_keep
                      | (go_split_ands
                         refine ⟨?_, ?_⟩
                         · (rw [hgrow.cell_far _ (by simp; have := hf1.out; omega) (Ne.symm hp1)]; assumption)
                         · (rw [hgrow.cell_far _ (by simp; have := hf2.out; omega) (Ne.symm hp2)]; assumption)))
                    ((refine step_append_lies _ (by rfl) _ _ _ (by rfl) ws.heap.size 92 i0 _ 1 4 Tryz.underlying93 hi hz0 hz1 hz2 rfl (by omega) u17 k _ (by rfl) ((Ho.out.alloc _).drew)
                          ⟨wr.heap.size, 0, none⟩ 1 1 [.int .u32 (IntKind.u32.wrap ((p : Int) + (q : Int)))] (by rfl) (by rfl)
                          (World.news_of_block (cs := #[.int .u32 (IntKind.u32.wrap ((p : Int) + (q : Int)))]) (t := 92) (fr := (0, 0)) (heap_alloc_new wr _)) (by simp [Value.oneCell'])
                          (by omega) h63 hby (by simp; have := hsz.out; omega) (wr.heap.size + 1) (by simp) ?_; intro gg cap w1 hown1 hgrow hat hlt))
                  all_goals
                    have bS : Below ws.heap.size ws w1 := ((bT.alloc bT.size _).drew).grown hgrow (by have := hsz.out; simp; omega) (fun q e => (Ho.out.lt q e).1)
                    rw [sum2_walk, ← cells32_snoc, ← Hc.out] at hown1
                    have Hown := Lib.hid hown1
                    clear hown1 hgrow hat hlt c1 c2 hp1 hp2
                    go_wp2_with fail
                    go_roundw
                    case rel => exact ⟨k + 1, by omega, by go_num, Hown, bS⟩
                    case measure => simp [intOf]; omega
                · obtain rfl : k = 8 := by omega
                  have h := Ho.out
                  rw [List.take_of_length_le (show (listE (addE v x)).length ≤ 8 from Nat.le_refl _), ← Hbl.out] at h
                  have Hend := Lib.hid (World.ownsRow.mono h bR.size)
                  have bE := bR.trans (bT.mono bR.size)
                  clear h hlt hk Ho bT
                  go_wp2_with fail
                  go_ret
                  exact ⟨_, rfl, Hend.out, bE⟩
end Go.Proofs.YtnndnjnpkjpkpaaGreatDoor
namespace Go.Proofs.YtnndnjnpkjpkpaaGreatDoor
open Go.RowKit
theorem padF_length (l : List UInt8) : (padF l).length = 64 * ((padF l).length / 64) := by
  have h : (padF l).length = l.length + 1 + padZ l.length + 8 := by simp [padF, be8]; omega
  have h2 : (l.length + 1 + padZ l.length + 8) % 64 = 0 := by unfold padZ; omega
  omega
theorem padF_le (l : List UInt8) : (padF l).length ≤ l.length + 72 := by
  have h : (padF l).length = l.length + 1 + padZ l.length + 8 := by simp [padF, be8]; omega
  have h2 : padZ l.length ≤ 63 := by unfold padZ; omega
  omega
theorem padF_pos (l : List UInt8) : 64 ≤ (padF l).length := by
  have h := padF_length l
  have h2 : (padF l).length = l.length + 1 + padZ l.length + 8 := by simp [padF, be8]; omega
  omega
theorem hashN_ok (b : List UInt8) (j : Nat) : okE (hashN b j) := by
  cases j with
  | zero => show okE initE; unfold okE initE; decide
  | succ j => exact addE_ok _ _
theorem BytesAt.keep {w w' : World} {b o : Nat} {l : List UInt8} (h : BytesAt w b o l) (hb : Below w.heap.size w w') : BytesAt w' b o l := fun i hi =>
  (hb.cell (p := ⟨b, o + i, none⟩) (lt_of_cell (h i hi))).trans (h i hi)
theorem BytesAt.part {w : World} {b k n : Nat} {l : List UInt8} (h : BytesAt w b 0 l) (hk : k + n ≤ l.length) : BytesAt w b k ((l.drop k).take n) := fun i hi => by
  have hn : i < n := by rw [List.length_take] at hi; omega
  have h1 := h (k + i) (by omega)
  rw [Nat.zero_add] at h1
  rw [h1]
  simp only [List.getD_eq_getElem?_getD, List.getElem?_take, List.getElem?_drop, if_pos hn]
theorem bytes_row {w : World} {base g n c : Nat} {l : List UInt8} (h : w.ownsRow base 5 1 (.slice (some ⟨g, 0, none⟩) n c) n (cells8 l)) : BytesAt w g 0 l := fun i hi => by
  have h1 : (cells8 l)[i]? = some (.int .u8 (((l.getD i 0).toNat : Nat) : Int)) := by
    unfold cells8
    rw [List.getElem?_map, List.getElem?_eq_getElem hi, List.getD_eq_getElem?_getD, List.getElem?_eq_getElem hi]
    rfl
  have h2 := World.ownsRow.cells h rfl _ _ h1
  have e : Addr.add ⟨g, 0, none⟩ i = ⟨g, 0 + i, none⟩ := by unfold Addr.add; split <;> simp_all
  rw [e] at h2
  exact h2
theorem bytesE_at (x : Eight) (k : Nat) (h : k < 8) : (bytesE x).take (4 * (k + 1)) = (bytesE x).take (4 * k) ++ be4 ((listE x).getD k 0) := by
  match k, h with
  | 0, _ => rfl
  | 1, _ => rfl
  | 2, _ => rfl
  | 3, _ => rfl
  | 4, _ => rfl
  | 5, _ => rfl
  | 6, _ => rfl
  | 7, _ => rfl
theorem be4_cells (n : Nat) : cells8 (be4 n) = [.int .u8 (IntKind.u8.wrap ((n : Int) / 16777216)), .int .u8 (IntKind.u8.wrap ((n : Int) / 65536)), .int .u8 (IntKind.u8.wrap ((n : Int) / 256)), .int .u8 (IntKind.u8.wrap (n : Int))] := by
  show cells8 (be4 n) = ([.int .u8 ((n : Int) / 16777216 % 256), .int .u8 ((n : Int) / 65536 % 256), .int .u8 ((n : Int) / 256 % 256), .int .u8 ((n : Int) % 256)] : List Value)
  unfold cells8 be4
  simp [Nat.shiftRight_eq_div_pow]
theorem cells8_append (a b : List UInt8) : cells8 (a ++ b) = cells8 a ++ cells8 b := by unfold cells8; rw [List.map_append]

set_option maxRecDepth 100000 in
set_option maxHeartbeats 8000000 in
theorem refSum_calls (s : ByteArray) (w : World) (hs : s.size ≤ 1000000) :
    Calls Tryz.prog 51 #[.string s] w fun e W' => e = .returned (.string ⟨(shaF s.data.toList).toArray⟩) ∧ Below w.heap.size w W' := by
  obtain ⟨i0, hi, hz0, hz1, hz2⟩ := info_parts (show (Tryz.prog.info? 5).map (fun i => (i.zero, i.size, i.bytes)) = some (some (.int .u8 0), 1, 1) from by kernel_rfl)
  obtain ⟨m, hm⟩ : ∃ m, (padF s.data.toList).length / 64 = m := ⟨_, rfl⟩
  have Hm := Lib.hid (show (padF s.data.toList).length = 64 * m by rw [← hm]; exact padF_length _)
  have hm1 : 1 ≤ m := by have h1 := padF_pos s.data.toList; have h2 := Hm.out; omega
  have hm2 : 64 * m ≤ 1000072 := by have h1 := padF_le s.data.toList; have h2 := Hm.out; simp at h1; omega
  have Hsha := Lib.hid (show shaF s.data.toList = bytesE (hashN (padF s.data.toList) m) by unfold shaF; rw [hm])
  clear hm
  go_enter Tryz.func51, Tryz.ntmps51
  go_wp2_with fail
  refine (extended_calls s _ hs).mono ?_
  rintro e w1 ⟨bv, rfl, hb, bA⟩
  rw [Hm.out] at hb
  obtain ⟨gb, cb, rfl, _⟩ := hb.form (by omega)
  have HB := Lib.hid (bytes_row hb)
  have hcap : 64 * m ≤ cb := by
    rcases hb.2 with ⟨h, _⟩ | ⟨g', c', cur, hv, _, _, hnc, _⟩
    · cases h
    · injection hv with _ _ h3
      omega
  have HI := Lib.hid ((words_new w (listE initE) 92).keep bA)
  have bB : Below w.heap.size w w1 := ((Below.refl _ _).alloc (Nat.le_refl _) _).trans (bA.mono (by simp))
  clear hb bA
  go_wp2_with fail
  go_loopw [3, 5] (fun hv iv wr => ∃ j gh ch : Nat, j ≤ m ∧ iv = .int .i64 ((64 * j : Nat) : Int) ∧ hv = .slice (some ⟨gh, 0, none⟩) 8 ch ∧ Hid (WordsAt wr gh 0 (listE (hashN (padF s.data.toList) j))) ∧ Hid (BytesAt wr gb 0 (padF s.data.toList)) ∧ Below w.heap.size w wr)
    (fun _ iv _ => 64 * m - (intOf iv).toNat)
  case atStart => exact ⟨0, w.heap.size, 8, by omega, rfl, rfl, HI, HB, bB⟩
  case round =>
    obtain ⟨j, gh, ch, hj, rfl, rfl, HH, HB, bR⟩ := hrel
    clear HI bB
    by_cases hlt : j < m
    · have Hbl : Hid ((((padF s.data.toList).drop (64 * j)).take 64).length = 64) := Lib.hid (by rw [List.length_take, List.length_drop, Hm.out]; omega)
      have HP := Lib.hid (HB.out.part (k := 64 * j) (n := 64) (by rw [Hm.out]; omega))
      have l1 : 64 * (j : Int) < 64 * (m : Int) := by omega
      have l2 : 64 * (j : Int) + 64 ≤ (cb : Int) := by omega
      have l3 : 64 * (j : Int) + 64 ≤ 64 * (m : Int) := by omega
      have l4 : ¬ cb = 64 * j := by omega
      go_wp2_with fail
      refine (block_calls (hashN (padF s.data.toList) j) _ gh gb (64 * j) ch _ wr Hbl.out (hashN_ok _ _) HH.out HP.out).mono ?_
      rintro e w2 ⟨hv, rfl, hr, b2⟩
      obtain ⟨g2, c2, rfl, _⟩ := hr.form (by omega)
      have HR : Hid (WordsAt w2 g2 0 (listE (hashN (padF s.data.toList) (j + 1)))) := Lib.hid (words_row hr)
      have HB2 := Lib.hid (HB.out.keep b2)
      have bS := bR.trans (b2.mono bR.size)
      clear hr b2 bR HB HH HP l1 l2 l3 l4
      go_wp2_with fail
      go_roundw
      case rel => exact ⟨j + 1, g2, c2, by omega, by go_num, rfl, HR, HB2, bS⟩
      case measure => simp [intOf]; omega
    · obtain rfl : j = m := by omega
      obtain ⟨x, hx⟩ : ∃ x, hashN (padF s.data.toList) j = x := ⟨_, rfl⟩
      rw [hx] at HH Hsha
      clear hx HB hlt hj
      have hgh := Lib.hid (show gh < wr.heap.size from lt_of_cell (HH.out 0 (show 0 < 8 by decide)))
      obtain ⟨ws, hws⟩ : ∃ ws : World, ws = wr := ⟨_, rfl⟩
      rw [← hws] at HH hgh bR
      have l0 : 64 * (j : Int) ≤ 64 * (j : Int) := by omega
      rw [show ((64 * j : Nat) : Int) = 64 * (j : Int) from by simp]
      go_wp2_with fail
      rw [← hws]
      clear hws
      go_loopw [6, 7] (fun ov iv wr => ∃ k : Nat, k ≤ 8 ∧ iv = .int .i64 k ∧ Hid (wr.ownsRow ws.heap.size 5 1 ov (4 * k) (cells8 ((bytesE x).take (4 * k)))) ∧ Below ws.heap.size ws wr)
        (fun _ iv _ => 8 - (intOf iv).toNat)
      case atStart => exact ⟨0, by omega, rfl, Lib.hid (World.ownsRow_nil _ _ _ _), Below.refl _ _⟩
      case round =>
        obtain ⟨k, hk, rfl, Ho, bT⟩ := hrel
        by_cases hlt : k < 8
        · have c1 : wr.cell? ⟨gh, 0 + k, none⟩ = _ := (HH.out.keep bT) k (show k < 8 from hlt)
          rw [Nat.zero_add] at c1
          have Hc := Lib.hid (bytesE_at x k hlt)
          generalize (listE x).getD k 0 = p at *
          have Hc4 := Lib.hid (be4_cells p)
          have hp1 : u6.ownBlock ≠ some gh := fun e => by
            have h1 := (Ho.out.lt gh e).1
            have h2 := hgh.out
            omega
          have hsz := Lib.hid bT.size
          have hf1 := Lib.hid (lt_of_cell c1)
          have h63 : 4 * k + 4 ≤ maxLen := by unfold maxLen; omega
          have hby : (4 * k + 4) * 1 ≤ 140737488355328 := by omega
          have k8 : (k : Int) < 8 := by omega
          have k0 : 0 ≤ (k : Int) := by omega
          go_wp2_with fail
          go_region_held3 (fun w' => w'.cell? ⟨gh, k, none⟩ = some (.int .u32 (p : Int)))
            (first
              | go_keep
              | (rw [hgrow.cell_far _ (by simp; have := hf1.out; omega) (Ne.symm hp1)]; assumption))
            ((refine step_append_lies _ (by rfl) _ _ _ (by rfl) ws.heap.size 5 i0 _ 1 1 Tryz.underlying94 hi hz0 hz1 hz2 rfl (by omega) u6 (4 * k) _ (by rfl) ((Ho.out.alloc _).drew)
                  ⟨wr.heap.size, 0, none⟩ 4 4 [.int .u8 (IntKind.u8.wrap ((p : Int) / 16777216)), .int .u8 (IntKind.u8.wrap ((p : Int) / 65536)), .int .u8 (IntKind.u8.wrap ((p : Int) / 256)), .int .u8 (IntKind.u8.wrap (p : Int))] (by rfl) (by rfl)
                  (World.news_of_block (cs := #[.int .u8 (IntKind.u8.wrap ((p : Int) / 16777216)), .int .u8 (IntKind.u8.wrap ((p : Int) / 65536)), .int .u8 (IntKind.u8.wrap ((p : Int) / 256)), .int .u8 (IntKind.u8.wrap (p : Int))]) (t := 5) (fr := (0, 0)) (heap_alloc_new wr _)) (by simp [Value.oneCell'])
                  (by omega) h63 hby (by simp; have := hsz.out; omega) (wr.heap.size + 1) (by simp) ?_; intro gg cap w1 hown1 hgrow hat hlt))
          all_goals
            have bS : Below ws.heap.size ws w1 := ((bT.alloc bT.size _).drew).grown hgrow (by have := hsz.out; simp; omega) (fun q e => (Ho.out.lt q e).1)
            rw [← Hc4.out, ← cells8_append, ← Hc.out] at hown1
            have Hown := Lib.hid hown1
            clear hown1 hgrow hat hlt c1 hp1
            go_wp2_with fail
            go_roundw
            case rel => exact ⟨k + 1, by omega, by go_num, Hown, bS⟩
            case measure => simp [intOf]; omega
        · obtain rfl : k = 8 := by omega
          have h := Ho.out
          rw [List.take_of_length_le (show (bytesE x).length ≤ 4 * 8 from Nat.le_refl _)] at h
          obtain ⟨g8, c8, rfl, _⟩ := h.form (by omega)
          have hcv := row_string (show (bytesE x).length = 4 * 8 from rfl) h
          have bE := bR.trans (bT.mono bR.size)
          clear h hlt hk Ho bT
          go_wp2_with fail
          go_ret
          exact ⟨by rw [Hsha.out]; rfl, bE⟩
end Go.Proofs.YtnndnjnpkjpkpaaGreatDoor
