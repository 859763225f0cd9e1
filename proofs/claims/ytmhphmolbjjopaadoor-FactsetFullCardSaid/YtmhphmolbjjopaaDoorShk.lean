/- SHA-256 in a strict form, for the kernel. -/
import Derived.Test.YtmhphmolbjjopaaDoorDRefSum
namespace Go.Proofs.YtmhphmolbjjopaaDoor

/-- The value of a function at a number that the kernel evaluates first. -/
def force {α : Sort _} (n : Nat) (f : Nat → α) : α := Nat.rec (motive := fun _ => α) (f 0) (fun m _ => f (m + 1)) n
theorem force_eq {α : Sort _} (n : Nat) (f : Nat → α) : force n f = f n := by cases n <;> rfl

/-! ### The same, for the kernel -/
/-- A list whose elements are numbers. -/
def forceL {α : Sort _} : List Nat → (List Nat → α) → α
  | [], f => f []
  | x :: l, f => force x fun y => forceL l fun r => f (y :: r)
theorem forceL_eq {α : Sort _} (l : List Nat) (f : List Nat → α) : forceL l f = f l := by
  induction l generalizing f with
  | nil => rfl
  | cons x l ih => simp only [forceL, force_eq, ih]
def schedK : Nat → List Nat → List Nat
  | 0, w => w
  | j + 1, w => force (nextW w) fun x => schedK j (w ++ [x])
theorem schedK_eq (j : Nat) (w : List Nat) : schedK j w = schedN w j := by
  have h : ∀ i, schedN (w ++ [nextW w]) i = schedN w (i + 1) := by
    intro i
    induction i with
    | zero => rfl
    | succ i ih => show schedN (w ++ [nextW w]) i ++ [nextW (schedN (w ++ [nextW w]) i)] = _; rw [ih]; rfl
  induction j generalizing w with
  | zero => rfl
  | succ j ih =>
    show force (nextW w) (fun x => schedK j (w ++ [x])) = _
    rw [force_eq, ih, h]
    intro i
    induction i with
    | zero => rfl
    | succ i ih2 => show schedN (_ ++ [nextW _]) i ++ [nextW (schedN (_ ++ [nextW _]) i)] = _; rw [ih2]; rfl

def goK : List Nat → List Nat → Nat → Nat → Nat → Nat → Nat → Nat → Nat → Nat → (Eight → Eight) → Eight
  | k :: ks, w :: ws, a, b, c, d, e, f, g, h, z =>
    force (tN ⟨a, b, c, d, e, f, g, h⟩ k w) fun t =>
    force ((t + uN ⟨a, b, c, d, e, f, g, h⟩) % 4294967296) fun a' =>
    force ((d + t) % 4294967296) fun e' => goK ks ws a' a b c e' e f g z
  | _, _, a, b, c, d, e, f, g, h, z => z ⟨a, b, c, d, e, f, g, h⟩
def runE : List Nat → List Nat → Eight → Eight
  | k :: ks, w :: ws, v => runE ks ws (stepE v k w)
  | _, _, v => v
theorem goK_eq (ks ws : List Nat) (a b c d e f g h : Nat) (z : Eight → Eight) : goK ks ws a b c d e f g h z = z (runE ks ws ⟨a, b, c, d, e, f, g, h⟩) := by
  induction ks generalizing ws a b c d e f g h with
  | nil => unfold goK runE; rfl
  | cons k ks ih =>
    cases ws with
    | nil => unfold goK runE; rfl
    | cons w ws =>
      unfold goK runE
      simp only [force_eq]
      rw [ih]
      rfl
theorem roundsN_run (ws : List Nat) (v : Eight) (n : Nat) : ∀ (i : Nat), i + n = 64 → ws.length = 64 → runE (shaK.drop i) (ws.drop i) (roundsN ws v i) = roundsN ws v 64 := by
  induction n with
  | zero =>
    intro i hi hl
    have : i = 64 := by omega
    subst this
    rw [List.drop_of_length_le (by omega : ws.length ≤ 64)]
    rw [List.drop_of_length_le (by decide : shaK.length ≤ 64)]
    rfl
  | succ n ih =>
    intro i hi hl
    have hk : i < shaK.length := by show i < 64; omega
    rw [List.drop_eq_getElem_cons hk, List.drop_eq_getElem_cons (by omega : i < ws.length)]
    unfold runE
    rw [← ih (i + 1) (by omega) hl]
    show _ = runE _ _ (stepE (roundsN ws v i) (shaK.getD i 0) (ws.getD i 0))
    rw [List.getD_eq_getElem?_getD, List.getD_eq_getElem?_getD, List.getElem?_eq_getElem hk, List.getElem?_eq_getElem (by omega : i < ws.length)]
    rfl
def blockK (v : Eight) (b : List UInt8) (z : Eight → Eight) : Eight :=
  forceL (words16 b) fun w => goK shaK (schedK 48 w) v.a v.b v.c v.d v.e v.f v.g v.h fun x =>
    force ((v.a + x.a) % 4294967296) fun a => force ((v.b + x.b) % 4294967296) fun b => force ((v.c + x.c) % 4294967296) fun c => force ((v.d + x.d) % 4294967296) fun d =>
    force ((v.e + x.e) % 4294967296) fun e => force ((v.f + x.f) % 4294967296) fun f => force ((v.g + x.g) % 4294967296) fun g => force ((v.h + x.h) % 4294967296) fun h => z ⟨a, b, c, d, e, f, g, h⟩
theorem blockK_eq (v : Eight) (b : List UInt8) (z : Eight → Eight) : blockK v b z = z (blockE v b) := by
  unfold blockK
  rw [forceL_eq]
  show goK shaK (schedK 48 (words16 b)) _ _ _ _ _ _ _ _ _ = _
  rw [goK_eq, schedK_eq]
  simp only [force_eq]
  have h := roundsN_run (schedN (words16 b) 48) v 64 0 rfl (by rw [schedN_length]; rfl)
  have h' : runE shaK (schedN (words16 b) 48) v = roundsN (schedN (words16 b) 48) v 64 := h
  have hv : (⟨v.a, v.b, v.c, v.d, v.e, v.f, v.g, v.h⟩ : Eight) = v := rfl
  rw [hv, h']
  rfl
def hashK : Nat → List UInt8 → Eight → Eight
  | 0, _, v => v
  | j + 1, b, v => blockK v (b.take 64) fun x => hashK j (b.drop 64) x
theorem hashK_eq (b : List UInt8) (j i : Nat) : hashK j (b.drop (64 * i)) (hashN b i) = hashN b (i + j) := by
  induction j generalizing i with
  | zero => rfl
  | succ j ih =>
    unfold hashK
    rw [blockK_eq, List.drop_drop, show 64 * i + 64 = 64 * (i + 1) by omega]
    have := ih (i + 1)
    rw [show i + (j + 1) = i + 1 + j by omega, ← this]
    rfl
/-- The strict form. -/
def shaK' (s : List UInt8) : List UInt8 := bytesE (hashK ((padF s).length / 64) (padF s) initE)
theorem shaK_eq (s : List UInt8) : shaF s = shaK' s := by
  unfold shaF shaK'
  have h := hashK_eq (padF s) ((padF s).length / 64) 0
  rw [Nat.zero_add] at h
  rw [← h]
  rfl

end Go.Proofs.YtmhphmolbjjopaaDoor
