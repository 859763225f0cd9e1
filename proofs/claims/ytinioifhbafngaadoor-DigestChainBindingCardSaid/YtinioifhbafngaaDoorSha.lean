/- Plain mathematics of SHA-256: natural numbers and lists of bytes alone. No condition. -/
import Derived.Test.YtinioifhbafngaaDoorTree
namespace Go.Proofs.YtinioifhbafngaaDoor

/-- The value of a function at a number that the kernel evaluates first. -/
def force {α : Sort _} (n : Nat) (f : Nat → α) : α := Nat.rec (motive := fun _ => α) (f 0) (fun m _ => f (m + 1)) n
theorem force_eq {α : Sort _} (n : Nat) (f : Nat → α) : force n f = f n := by cases n <;> rfl

def shaW : Nat := 4294967296
def rotN (x n : Nat) : Nat := (x >>> n) ||| ((x <<< (32 - n)) % 4294967296)
def chN (e f g : Nat) : Nat := (e &&& f) ^^^ ((4294967295 - e) &&& g)
def majN (a b c : Nat) : Nat := ((a &&& b) ^^^ (a &&& c)) ^^^ (b &&& c)
def sig0 (x : Nat) : Nat := (rotN x 7 ^^^ rotN x 18) ^^^ (x >>> 3)
def sig1 (x : Nat) : Nat := (rotN x 17 ^^^ rotN x 19) ^^^ (x >>> 10)
def eps1 (x : Nat) : Nat := (rotN x 6 ^^^ rotN x 11) ^^^ rotN x 25
def eps0 (x : Nat) : Nat := (rotN x 2 ^^^ rotN x 13) ^^^ rotN x 22

def shaK : List Nat := [
  0x428a2f98, 0x71374491, 0xb5c0fbcf, 0xe9b5dba5, 0x3956c25b, 0x59f111f1, 0x923f82a4, 0xab1c5ed5,
  0xd807aa98, 0x12835b01, 0x243185be, 0x550c7dc3, 0x72be5d74, 0x80deb1fe, 0x9bdc06a7, 0xc19bf174,
  0xe49b69c1, 0xefbe4786, 0x0fc19dc6, 0x240ca1cc, 0x2de92c6f, 0x4a7484aa, 0x5cb0a9dc, 0x76f988da,
  0x983e5152, 0xa831c66d, 0xb00327c8, 0xbf597fc7, 0xc6e00bf3, 0xd5a79147, 0x06ca6351, 0x14292967,
  0x27b70a85, 0x2e1b2138, 0x4d2c6dfc, 0x53380d13, 0x650a7354, 0x766a0abb, 0x81c2c92e, 0x92722c85,
  0xa2bfe8a1, 0xa81a664b, 0xc24b8b70, 0xc76c51a3, 0xd192e819, 0xd6990624, 0xf40e3585, 0x106aa070,
  0x19a4c116, 0x1e376c08, 0x2748774c, 0x34b0bcb5, 0x391c0cb3, 0x4ed8aa4a, 0x5b9cca4f, 0x682e6ff3,
  0x748f82ee, 0x78a5636f, 0x84c87814, 0x8cc70208, 0x90befffa, 0xa4506ceb, 0xbef9a3f7, 0xc67178f2]
def shaI : List Nat := [0x6a09e667, 0xbb67ae85, 0x3c6ef372, 0xa54ff53a, 0x510e527f, 0x9b05688c, 0x1f83d9ab, 0x5be0cd19]

/-- The string with what is added to it. -/
def padZ (n : Nat) : Nat := (119 - n % 64) % 64
def be8 (n : Nat) : List UInt8 := (List.range 8).map fun j => UInt8.ofNat (n / 2 ^ (8 * (7 - j)))
def padF (s : List UInt8) : List UInt8 := s ++ 128 :: (List.replicate (padZ s.length) 0 ++ be8 (8 * s.length))

/-- The words of a block. -/
def wordN (b : List UInt8) (j : Nat) : Nat := (b.getD (4 * j) 0).toNat * 16777216 + (b.getD (4 * j + 1) 0).toNat * 65536 + (b.getD (4 * j + 2) 0).toNat * 256 + (b.getD (4 * j + 3) 0).toNat
def words16 (b : List UInt8) : List Nat := (List.range 16).map (wordN b)
def nextW (w : List Nat) : Nat := (((w.getD (w.length - 16) 0 + sig0 (w.getD (w.length - 15) 0)) % 4294967296 + w.getD (w.length - 7) 0) % 4294967296 + sig1 (w.getD (w.length - 2) 0)) % 4294967296
def schedN (w : List Nat) : Nat → List Nat
  | 0 => w
  | j + 1 => schedN w j ++ [nextW (schedN w j)]

/-- The eight words. -/
structure Eight where
  (a b c d e f g h : Nat)
def tN (v : Eight) (k w : Nat) : Nat := ((((v.h + eps1 v.e) % 4294967296 + chN v.e v.f v.g) % 4294967296 + k) % 4294967296 + w) % 4294967296
def uN (v : Eight) : Nat := (eps0 v.a + majN v.a v.b v.c) % 4294967296
def stepE (v : Eight) (k w : Nat) : Eight := ⟨(tN v k w + uN v) % 4294967296, v.a, v.b, v.c, (v.d + tN v k w) % 4294967296, v.e, v.f, v.g⟩
def roundsN (w : List Nat) (v : Eight) : Nat → Eight
  | 0 => v
  | i + 1 => stepE (roundsN w v i) (shaK.getD i 0) (w.getD i 0)
def addE (v x : Eight) : Eight := ⟨(v.a + x.a) % 4294967296, (v.b + x.b) % 4294967296, (v.c + x.c) % 4294967296, (v.d + x.d) % 4294967296, (v.e + x.e) % 4294967296, (v.f + x.f) % 4294967296, (v.g + x.g) % 4294967296, (v.h + x.h) % 4294967296⟩
def blockE (v : Eight) (b : List UInt8) : Eight := addE v (roundsN (schedN (words16 b) 48) v 64)
def initE : Eight := ⟨0x6a09e667, 0xbb67ae85, 0x3c6ef372, 0xa54ff53a, 0x510e527f, 0x9b05688c, 0x1f83d9ab, 0x5be0cd19⟩
def hashN (b : List UInt8) : Nat → Eight
  | 0 => initE
  | j + 1 => blockE (hashN b j) ((b.drop (64 * j)).take 64)
def be4 (n : Nat) : List UInt8 := [UInt8.ofNat (n >>> 24), UInt8.ofNat (n >>> 16), UInt8.ofNat (n >>> 8), UInt8.ofNat n]
def bytesE (v : Eight) : List UInt8 := be4 v.a ++ (be4 v.b ++ (be4 v.c ++ (be4 v.d ++ (be4 v.e ++ (be4 v.f ++ (be4 v.g ++ be4 v.h))))))
def shaF (s : List UInt8) : List UInt8 := bytesE (hashN (padF s) ((padF s).length / 64))

theorem shaF_length (s : List UInt8) : (shaF s).length = 32 := rfl

/-! ### The same, for the kernel -/
/-- A list whose elements are numbers. -/
def forceL {α : Sort _} : List Nat → (List Nat → α) → α
  | [], f => f []
  | x :: l, f => force x fun y => forceL l fun r => f (y :: r)
theorem forceL_eq {α : Sort _} (l : List Nat) (f : List Nat → α) : forceL l f = f l := by
  induction l generalizing f with
  | nil => rfl
  | cons x l ih => simp only [forceL, force_eq, ih]
def schedK : Nat → List Nat → List Nat
  | 0, w => w
  | j + 1, w => force (nextW w) fun x => schedK j (w ++ [x])
theorem schedK_eq (j : Nat) (w : List Nat) : schedK j w = schedN w j := by
  have h : ∀ i, schedN (w ++ [nextW w]) i = schedN w (i + 1) := by
    intro i
    induction i with
    | zero => rfl
    | succ i ih => show schedN (w ++ [nextW w]) i ++ [nextW (schedN (w ++ [nextW w]) i)] = _; rw [ih]; rfl
  induction j generalizing w with
  | zero => rfl
  | succ j ih =>
    show force (nextW w) (fun x => schedK j (w ++ [x])) = _
    rw [force_eq, ih, h]
    intro i
    induction i with
    | zero => rfl
    | succ i ih2 => show schedN (_ ++ [nextW _]) i ++ [nextW (schedN (_ ++ [nextW _]) i)] = _; rw [ih2]; rfl

def goK : List Nat → List Nat → Nat → Nat → Nat → Nat → Nat → Nat → Nat → Nat → (Eight → Eight) → Eight
  | k :: ks, w :: ws, a, b, c, d, e, f, g, h, z =>
    force (tN ⟨a, b, c, d, e, f, g, h⟩ k w) fun t =>
    force ((t + uN ⟨a, b, c, d, e, f, g, h⟩) % 4294967296) fun a' =>
    force ((d + t) % 4294967296) fun e' => goK ks ws a' a b c e' e f g z
  | _, _, a, b, c, d, e, f, g, h, z => z ⟨a, b, c, d, e, f, g, h⟩
def runE : List Nat → List Nat → Eight → Eight
  | k :: ks, w :: ws, v => runE ks ws (stepE v k w)
  | _, _, v => v
theorem goK_eq (ks ws : List Nat) (a b c d e f g h : Nat) (z : Eight → Eight) : goK ks ws a b c d e f g h z = z (runE ks ws ⟨a, b, c, d, e, f, g, h⟩) := by
  induction ks generalizing ws a b c d e f g h with
  | nil => unfold goK runE; rfl
  | cons k ks ih =>
    cases ws with
    | nil => unfold goK runE; rfl
    | cons w ws =>
      unfold goK runE
      simp only [force_eq]
      rw [ih]
      rfl
theorem roundsN_run (ws : List Nat) (v : Eight) (n : Nat) : ∀ (i : Nat), i + n = 64 → ws.length = 64 → runE (shaK.drop i) (ws.drop i) (roundsN ws v i) = roundsN ws v 64 := by
  induction n with
  | zero =>
    intro i hi hl
    have : i = 64 := by omega
    subst this
    rw [List.drop_of_length_le (by omega : ws.length ≤ 64)]
    rw [List.drop_of_length_le (by decide : shaK.length ≤ 64)]
    rfl
  | succ n ih =>
    intro i hi hl
    have hk : i < shaK.length := by show i < 64; omega
    rw [List.drop_eq_getElem_cons hk, List.drop_eq_getElem_cons (by omega : i < ws.length)]
    unfold runE
    rw [← ih (i + 1) (by omega) hl]
    show _ = runE _ _ (stepE (roundsN ws v i) (shaK.getD i 0) (ws.getD i 0))
    rw [List.getD_eq_getElem?_getD, List.getD_eq_getElem?_getD, List.getElem?_eq_getElem hk, List.getElem?_eq_getElem (by omega : i < ws.length)]
    rfl
theorem schedN_length (w : List Nat) (j : Nat) : (schedN w j).length = w.length + j := by
  induction j with
  | zero => rfl
  | succ j ih => unfold schedN; rw [List.length_append, ih, List.length_singleton]; omega

def blockK (v : Eight) (b : List UInt8) (z : Eight → Eight) : Eight :=
  forceL (words16 b) fun w => goK shaK (schedK 48 w) v.a v.b v.c v.d v.e v.f v.g v.h fun x =>
    force ((v.a + x.a) % 4294967296) fun a => force ((v.b + x.b) % 4294967296) fun b => force ((v.c + x.c) % 4294967296) fun c => force ((v.d + x.d) % 4294967296) fun d =>
    force ((v.e + x.e) % 4294967296) fun e => force ((v.f + x.f) % 4294967296) fun f => force ((v.g + x.g) % 4294967296) fun g => force ((v.h + x.h) % 4294967296) fun h => z ⟨a, b, c, d, e, f, g, h⟩
theorem blockK_eq (v : Eight) (b : List UInt8) (z : Eight → Eight) : blockK v b z = z (blockE v b) := by
  unfold blockK
  rw [forceL_eq]
  show goK shaK (schedK 48 (words16 b)) _ _ _ _ _ _ _ _ _ = _
  rw [goK_eq, schedK_eq]
  simp only [force_eq]
  have h := roundsN_run (schedN (words16 b) 48) v 64 0 rfl (by rw [schedN_length]; rfl)
  have h' : runE shaK (schedN (words16 b) 48) v = roundsN (schedN (words16 b) 48) v 64 := h
  have hv : (⟨v.a, v.b, v.c, v.d, v.e, v.f, v.g, v.h⟩ : Eight) = v := rfl
  rw [hv, h']
  rfl
def hashK : Nat → List UInt8 → Eight → Eight
  | 0, _, v => v
  | j + 1, b, v => blockK v (b.take 64) fun x => hashK j (b.drop 64) x
theorem hashK_eq (b : List UInt8) (j i : Nat) : hashK j (b.drop (64 * i)) (hashN b i) = hashN b (i + j) := by
  induction j generalizing i with
  | zero => rfl
  | succ j ih =>
    unfold hashK
    rw [blockK_eq, List.drop_drop, show 64 * i + 64 = 64 * (i + 1) by omega]
    have := ih (i + 1)
    rw [show i + (j + 1) = i + 1 + j by omega, ← this]
    rfl
/-- The strict form. -/
def shaK' (s : List UInt8) : List UInt8 := bytesE (hashK ((padF s).length / 64) (padF s) initE)
theorem shaK_eq (s : List UInt8) : shaF s = shaK' s := by
  unfold shaF shaK'
  have h := hashK_eq (padF s) ((padF s).length / 64) 0
  rw [Nat.zero_add] at h
  rw [← h]
  rfl

theorem sha_empty : shaF [] = [0xe3, 0xb0, 0xc4, 0x42, 0x98, 0xfc, 0x1c, 0x14, 0x9a, 0xfb, 0xf4, 0xc8, 0x99, 0x6f, 0xb9, 0x24, 0x27, 0xae, 0x41, 0xe4, 0x64, 0x9b, 0x93, 0x4c, 0xa4, 0x95, 0x99, 0x1b, 0x78, 0x52, 0xb8, 0x55] := by
  rw [shaK_eq]
  decide +kernel
theorem sha_abc : shaF [97, 98, 99] = [0xba, 0x78, 0x16, 0xbf, 0x8f, 0x01, 0xcf, 0xea, 0x41, 0x41, 0x40, 0xde, 0x5d, 0xae, 0x22, 0x23, 0xb0, 0x03, 0x61, 0xa3, 0x96, 0x17, 0x7a, 0x9c, 0xb4, 0x10, 0xff, 0x61, 0xf2, 0x00, 0x15, 0xad] := by
  rw [shaK_eq]
  decide +kernel
theorem sane_bad : nodeF shaF (nodeF shaF (leafF shaF [97]) (leafF shaF [98])) (leafF shaF [100]) ≠ nodeF shaF (nodeF shaF (leafF shaF [97]) (leafF shaF [98])) (leafF shaF [99]) := by
  simp only [nodeF, leafF, shaK_eq]
  decide +kernel
theorem sane_ext : nodeF shaF (nodeF shaF (nodeF shaF (leafF shaF [97]) (leafF shaF [98])) (leafF shaF [98])) (leafF shaF [99]) ≠ nodeF shaF (nodeF shaF (leafF shaF [97]) (leafF shaF [98])) (leafF shaF [99]) := by
  simp only [nodeF, leafF, shaK_eq]
  decide +kernel
end Go.Proofs.YtinioifhbafngaaDoor
