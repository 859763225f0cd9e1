/- SHA-256 of many strings at once: lanes of 64 bits in one number. Plain mathematics, for the kernel. -/
import Derived.Test.YtmhphmolbjjopaaDoorShk
namespace Go.Proofs.YtmhphmolbjjopaaDoor

/-- Lanes of 64 bits, side by side. -/
def packF (f : Nat → Nat) : Nat → Nat
  | 0 => 0
  | n + 1 => packF f n + 2 ^ (64 * n) * f n

theorem packF_lt (f : Nat → Nat) (n : Nat) (h : ∀ i, i < n → f i < 2 ^ 64) : packF f n < 2 ^ (64 * n) := by
  induction n with
  | zero => simp [packF]
  | succ n ih =>
    have h1 := ih (fun i hi => h i (by omega))
    have h2 := h n (by omega)
    have h3 : 2 ^ (64 * n) * f n ≤ 2 ^ (64 * n) * (2 ^ 64 - 1) := Nat.mul_le_mul_left _ (by omega)
    rw [Nat.mul_sub, Nat.mul_one] at h3
    have h4 : 2 ^ (64 * (n + 1)) = 2 ^ (64 * n) * 2 ^ 64 := by rw [← Nat.pow_add]; congr 1
    have h5 : 2 ^ (64 * n) * 1 ≤ 2 ^ (64 * n) * 2 ^ 64 := Nat.mul_le_mul_left _ (by omega)
    rw [Nat.mul_one] at h5
    unfold packF
    omega
theorem packF_cong (f g : Nat → Nat) (n : Nat) (h : ∀ i, i < n → f i = g i) : packF f n = packF g n := by
  induction n with
  | zero => rfl
  | succ n ih => unfold packF; rw [ih (fun i hi => h i (by omega)), h n (by omega)]
theorem packF_bit (f : Nat → Nat) (n : Nat) (h : ∀ i, i < n → f i < 2 ^ 64) (i j : Nat) (hj : j < 64) : (packF f n).testBit (64 * i + j) = (decide (i < n) && (f i).testBit j) := by
  induction n with
  | zero => simp [packF]
  | succ n ih =>
    unfold packF
    rw [Nat.add_comm, Nat.testBit_two_pow_mul_add _ (packF_lt f n (fun i hi => h i (by omega)))]
    by_cases hi : i < n
    · rw [if_pos (by omega), ih (fun i hi => h i (by omega))]
      simp [hi, show i < n + 1 by omega]
    · rw [if_neg (by omega)]
      by_cases he : i = n
      · subst he
        simp
      · have h2 : (f n).testBit (64 * i + j - 64 * n) = false := by
          apply Nat.testBit_lt_two_pow
          refine Nat.lt_of_lt_of_le (h n (by omega)) (Nat.pow_le_pow_right (by omega) (by omega))
        rw [h2]
        simp [show ¬ i < n + 1 by omega]
theorem pack_ext (A : Nat) (f : Nat → Nat) (n : Nat) (h : ∀ i, i < n → f i < 2 ^ 64) (hA : ∀ i j, j < 64 → A.testBit (64 * i + j) = (decide (i < n) && (f i).testBit j)) : A = packF f n := by
  apply Nat.eq_of_testBit_eq
  intro p
  have hp : p = 64 * (p / 64) + p % 64 := by omega
  rw [hp, hA _ _ (by omega), packF_bit f n h _ _ (by omega)]

/-- Lanes of words. -/
def Sm (f : Nat → Nat) (n : Nat) : Prop := ∀ i, i < n → f i < 4294967296
theorem Sm.big {f : Nat → Nat} {n : Nat} (h : Sm f n) : ∀ i, i < n → f i < 2 ^ 64 := fun i hi => Nat.lt_of_lt_of_le (h i hi) (by decide)
theorem bit_small {x j : Nat} (h : x < 4294967296) (hj : 32 ≤ j) : x.testBit j = false :=
  Nat.testBit_lt_two_pow (Nat.lt_of_lt_of_le (show x < 2 ^ 32 by simpa using h) (Nat.pow_le_pow_right (by omega) hj))
/-- The mask of the words. -/
def mkP (n : Nat) : Nat := packF (fun _ => 4294967295) n
theorem mk_bit (n i j : Nat) (hj : j < 64) : (mkP n).testBit (64 * i + j) = (decide (i < n) && decide (j < 32)) := by
  unfold mkP
  rw [packF_bit _ _ (fun _ _ => by decide) _ _ hj, show (4294967295 : Nat) = 2 ^ 32 - 1 by decide, Nat.testBit_two_pow_sub_one]
theorem pack_and (f g : Nat → Nat) (n : Nat) (hf : Sm f n) (hg : Sm g n) : packF f n &&& packF g n = packF (fun i => f i &&& g i) n := by
  apply pack_ext
  · intro i hi; exact Nat.lt_of_le_of_lt Nat.and_le_left (hf.big i hi)
  · intro i j hj
    rw [Nat.testBit_and, packF_bit _ _ hf.big _ _ hj, packF_bit _ _ hg.big _ _ hj, Nat.testBit_and]
    cases decide (i < n) <;> simp
theorem pack_xor (f g : Nat → Nat) (n : Nat) (hf : Sm f n) (hg : Sm g n) : packF f n ^^^ packF g n = packF (fun i => f i ^^^ g i) n := by
  apply pack_ext
  · intro i hi; exact Nat.xor_lt_two_pow (hf.big i hi) (hg.big i hi)
  · intro i j hj
    rw [Nat.testBit_xor, packF_bit _ _ hf.big _ _ hj, packF_bit _ _ hg.big _ _ hj, Nat.testBit_xor]
    cases decide (i < n) <;> simp
def rotP (M x k : Nat) : Nat := ((x ||| (x <<< 32)) >>> k) &&& M
def shrP (M x k : Nat) : Nat := (x >>> k) &&& M
def addP (M x y : Nat) : Nat := (x + y) &&& M
theorem rot_bit (x k j : Nat) (hk : 1 ≤ k) (hk2 : k ≤ 31) (hj : j < 32) : (rotN x k).testBit j = (x.testBit (j + k) || (decide (32 ≤ j + k) && x.testBit (j + k - 32))) := by
  unfold rotN
  rw [Nat.testBit_or, Nat.testBit_shiftRight, show (4294967296 : Nat) = 2 ^ 32 by decide, Nat.testBit_mod_two_pow, Nat.testBit_shiftLeft]
  rw [show k + j = j + k by omega]
  congr 1
  by_cases h : 32 ≤ j + k
  · simp [hj, h, show 32 - k ≤ j by omega, show j - (32 - k) = j + k - 32 by omega]
  · simp [h, show ¬ 32 - k ≤ j by omega]
theorem rotN_small (x k : Nat) (hx : x < 4294967296) : rotN x k < 4294967296 := by
  unfold rotN
  refine Nat.or_lt_two_pow (n := 32) ?_ ?_
  · rw [Nat.shiftRight_eq_div_pow]; exact Nat.lt_of_le_of_lt (Nat.div_le_self _ _) hx
  · exact Nat.mod_lt _ (by decide)
theorem pack_rot (f : Nat → Nat) (n k : Nat) (hf : Sm f n) (hk : 1 ≤ k) (hk2 : k ≤ 31) : rotP (mkP n) (packF f n) k = packF (fun i => rotN (f i) k) n := by
  have hs : Sm (fun i => rotN (f i) k) n := fun i hi => rotN_small _ _ (hf i hi)
  apply pack_ext _ _ _ hs.big
  intro i j hj
  unfold rotP
  rw [Nat.testBit_and, mk_bit _ _ _ hj, Nat.testBit_shiftRight, Nat.testBit_or, Nat.testBit_shiftLeft]
  by_cases hi : i < n
  · by_cases h32 : j < 32
    · rw [rot_bit _ _ _ hk hk2 h32]
      rw [show k + (64 * i + j) = 64 * i + (j + k) by omega, packF_bit _ _ hf.big _ _ (by omega)]
      simp only [hi, h32, decide_true, Bool.true_and, Bool.and_true]
      congr 1
      by_cases hjk : 32 ≤ j + k
      · rw [show 64 * i + (j + k) - 32 = 64 * i + (j + k - 32) by omega, packF_bit _ _ hf.big _ _ (by omega)]
        simp [hi, hjk, show 32 ≤ 64 * i + (j + k) by omega]
      · simp only [hjk, decide_false, Bool.false_and]
        cases i with
        | zero => simp [show ¬ 32 ≤ j + k by omega]
        | succ i =>
          rw [show 64 * (i + 1) + (j + k) - 32 = 64 * i + (32 + (j + k)) by omega, packF_bit _ _ hf.big _ _ (by omega)]
          rw [bit_small (hf i (by omega)) (by omega)]
          simp
    · simp only [h32, decide_false, Bool.and_false]
      rw [bit_small (hs i hi) (by omega)]
      simp
  · simp [hi]
theorem pack_shr (f : Nat → Nat) (n k : Nat) (hf : Sm f n) (hk2 : k ≤ 31) : shrP (mkP n) (packF f n) k = packF (fun i => f i >>> k) n := by
  have hs : Sm (fun i => f i >>> k) n := fun i hi => by
    show f i >>> k < _
    rw [Nat.shiftRight_eq_div_pow]; exact Nat.lt_of_le_of_lt (Nat.div_le_self _ _) (hf i hi)
  apply pack_ext _ _ _ hs.big
  intro i j hj
  unfold shrP
  rw [Nat.testBit_and, mk_bit _ _ _ hj, Nat.testBit_shiftRight, Nat.testBit_shiftRight]
  by_cases hi : i < n
  · by_cases h32 : j < 32
    · rw [show k + (64 * i + j) = 64 * i + (k + j) by omega, packF_bit _ _ hf.big _ _ (by omega)]
      simp [hi, h32]
    · rw [bit_small (hf i hi) (by omega)]
      simp [h32]
  · simp [hi]
theorem pack_sum (f g : Nat → Nat) (n : Nat) : packF f n + packF g n = packF (fun i => f i + g i) n := by
  induction n with
  | zero => rfl
  | succ n ih => unfold packF; rw [← ih, Nat.mul_add]; omega
theorem pack_add (f g : Nat → Nat) (n : Nat) (hf : Sm f n) (hg : Sm g n) : addP (mkP n) (packF f n) (packF g n) = packF (fun i => (f i + g i) % 4294967296) n := by
  unfold addP mkP
  rw [pack_sum]
  have hb : ∀ i, i < n → f i + g i < 2 ^ 64 := fun i hi => by have := hf i hi; have := hg i hi; omega
  apply pack_ext
  · intro i hi; exact Nat.lt_of_lt_of_le (Nat.mod_lt _ (by decide)) (by decide)
  · intro i j hj
    rw [Nat.testBit_and, packF_bit _ _ hb _ _ hj, packF_bit _ _ (fun _ _ => by decide) _ _ hj, show (4294967296 : Nat) = 2 ^ 32 by decide, Nat.testBit_mod_two_pow, show (4294967295 : Nat) = 2 ^ 32 - 1 by decide, Nat.testBit_two_pow_sub_one]
    cases decide (i < n) <;> cases decide (j < 32) <;> simp
theorem pack_not (f : Nat → Nat) (n : Nat) (hf : Sm f n) : mkP n - packF f n = packF (fun i => 4294967295 - f i) n := by
  have h := pack_sum f (fun i => 4294967295 - f i) n
  have h2 : packF (fun i => f i + (4294967295 - f i)) n = mkP n := packF_cong _ _ _ (fun i hi => by have := hf i hi; omega)
  rw [h2] at h
  omega

/-! ### The functions of a block -/
def sig0P (M x : Nat) : Nat := (rotP M x 7 ^^^ rotP M x 18) ^^^ shrP M x 3
def sig1P (M x : Nat) : Nat := (rotP M x 17 ^^^ rotP M x 19) ^^^ shrP M x 10
def eps1P (M x : Nat) : Nat := (rotP M x 6 ^^^ rotP M x 11) ^^^ rotP M x 25
def eps0P (M x : Nat) : Nat := (rotP M x 2 ^^^ rotP M x 13) ^^^ rotP M x 22
def chP (M e f g : Nat) : Nat := (e &&& f) ^^^ ((M - e) &&& g)
def majP (a b c : Nat) : Nat := ((a &&& b) ^^^ (a &&& c)) ^^^ (b &&& c)
theorem xor_sm {f g : Nat → Nat} {n : Nat} (hf : Sm f n) (hg : Sm g n) : Sm (fun i => f i ^^^ g i) n := fun i hi => Nat.xor_lt_two_pow (n := 32) (hf i hi) (hg i hi)
theorem and_sm {f g : Nat → Nat} {n : Nat} (hf : Sm f n) : Sm (fun i => f i &&& g i) n := fun i hi => Nat.lt_of_le_of_lt Nat.and_le_left (hf i hi)
theorem rot_sm {f : Nat → Nat} {n : Nat} (k : Nat) (hf : Sm f n) : Sm (fun i => rotN (f i) k) n := fun i hi => rotN_small _ _ (hf i hi)
theorem shr_sm {f : Nat → Nat} {n : Nat} (k : Nat) (hf : Sm f n) : Sm (fun i => f i >>> k) n := fun i hi => by
  show f i >>> k < _
  rw [Nat.shiftRight_eq_div_pow]; exact Nat.lt_of_le_of_lt (Nat.div_le_self _ _) (hf i hi)
theorem add_sm {f g : Nat → Nat} {n : Nat} : Sm (fun i => (f i + g i) % 4294967296) n := fun _ _ => Nat.mod_lt _ (by decide)
theorem not_sm {f : Nat → Nat} {n : Nat} : Sm (fun i => 4294967295 - f i) n := fun i _ => by show _ - _ < _; omega
theorem pack_sig0 (f : Nat → Nat) (n : Nat) (h : Sm f n) : sig0P (mkP n) (packF f n) = packF (fun i => sig0 (f i)) n := by
  unfold sig0P
  rw [pack_rot f n 7 h (by omega) (by omega), pack_rot f n 18 h (by omega) (by omega), pack_shr f n 3 h (by omega), pack_xor _ _ _ (rot_sm 7 h) (rot_sm 18 h), pack_xor _ _ _ (xor_sm (rot_sm 7 h) (rot_sm 18 h)) (shr_sm 3 h)]
  rfl
theorem pack_sig1 (f : Nat → Nat) (n : Nat) (h : Sm f n) : sig1P (mkP n) (packF f n) = packF (fun i => sig1 (f i)) n := by
  unfold sig1P
  rw [pack_rot f n 17 h (by omega) (by omega), pack_rot f n 19 h (by omega) (by omega), pack_shr f n 10 h (by omega), pack_xor _ _ _ (rot_sm 17 h) (rot_sm 19 h), pack_xor _ _ _ (xor_sm (rot_sm 17 h) (rot_sm 19 h)) (shr_sm 10 h)]
  rfl
theorem pack_eps1 (f : Nat → Nat) (n : Nat) (h : Sm f n) : eps1P (mkP n) (packF f n) = packF (fun i => eps1 (f i)) n := by
  unfold eps1P
  rw [pack_rot f n 6 h (by omega) (by omega), pack_rot f n 11 h (by omega) (by omega), pack_rot f n 25 h (by omega) (by omega), pack_xor _ _ _ (rot_sm 6 h) (rot_sm 11 h), pack_xor _ _ _ (xor_sm (rot_sm 6 h) (rot_sm 11 h)) (rot_sm 25 h)]
  rfl
theorem pack_eps0 (f : Nat → Nat) (n : Nat) (h : Sm f n) : eps0P (mkP n) (packF f n) = packF (fun i => eps0 (f i)) n := by
  unfold eps0P
  rw [pack_rot f n 2 h (by omega) (by omega), pack_rot f n 13 h (by omega) (by omega), pack_rot f n 22 h (by omega) (by omega), pack_xor _ _ _ (rot_sm 2 h) (rot_sm 13 h), pack_xor _ _ _ (xor_sm (rot_sm 2 h) (rot_sm 13 h)) (rot_sm 22 h)]
  rfl
theorem pack_ch (e f g : Nat → Nat) (n : Nat) (he : Sm e n) (hf : Sm f n) (hg : Sm g n) : chP (mkP n) (packF e n) (packF f n) (packF g n) = packF (fun i => chN (e i) (f i) (g i)) n := by
  unfold chP
  rw [pack_not e n he, pack_and _ _ _ he hf, pack_and _ _ _ not_sm hg, pack_xor _ _ _ (and_sm he) (and_sm not_sm)]
  rfl
theorem pack_maj (a b c : Nat → Nat) (n : Nat) (ha : Sm a n) (hb : Sm b n) (hc : Sm c n) : majP (packF a n) (packF b n) (packF c n) = packF (fun i => majN (a i) (b i) (c i)) n := by
  unfold majP
  rw [pack_and _ _ _ ha hb, pack_and _ _ _ ha hc, pack_and _ _ _ hb hc, pack_xor _ _ _ (and_sm ha) (and_sm ha), pack_xor _ _ _ (xor_sm (and_sm ha) (and_sm ha)) (and_sm hb)]
  rfl

/-! ### A block -/
/-- The eight words of every lane. -/
def packE (V : Nat → Eight) (n : Nat) : Eight := ⟨packF (fun i => (V i).a) n, packF (fun i => (V i).b) n, packF (fun i => (V i).c) n, packF (fun i => (V i).d) n, packF (fun i => (V i).e) n, packF (fun i => (V i).f) n, packF (fun i => (V i).g) n, packF (fun i => (V i).h) n⟩
def okV (V : Nat → Eight) (n : Nat) : Prop := ∀ i, i < n → okE (V i)
def tP (M : Nat) (v : Eight) (k w : Nat) : Nat := addP M (addP M (addP M (addP M v.h (eps1P M v.e)) (chP M v.e v.f v.g)) k) w
def uP (M : Nat) (v : Eight) : Nat := addP M (eps0P M v.a) (majP v.a v.b v.c)
theorem pack_t (V : Nat → Eight) (k w : Nat → Nat) (n : Nat) (hV : okV V n) (hk : Sm k n) (hw : Sm w n) : tP (mkP n) (packE V n) (packF k n) (packF w n) = packF (fun i => tN (V i) (k i) (w i)) n := by
  have h5 : Sm (fun i => (V i).e) n := fun i hi => (hV i hi).2.2.2.2.1
  have h6 : Sm (fun i => (V i).f) n := fun i hi => (hV i hi).2.2.2.2.2.1
  have h7 : Sm (fun i => (V i).g) n := fun i hi => (hV i hi).2.2.2.2.2.2.1
  have h8 : Sm (fun i => (V i).h) n := fun i hi => (hV i hi).2.2.2.2.2.2.2
  have he : Sm (fun i => eps1 (V i).e) n := xor_sm (xor_sm (rot_sm 6 h5) (rot_sm 11 h5)) (rot_sm 25 h5)
  have hc : Sm (fun i => chN (V i).e (V i).f (V i).g) n := xor_sm (and_sm h5) (and_sm not_sm)
  unfold tP packE
  simp only
  rw [pack_eps1 _ _ h5, pack_ch _ _ _ _ h5 h6 h7, pack_add _ _ _ h8 he, pack_add _ _ _ add_sm hc, pack_add _ _ _ add_sm hk, pack_add _ _ _ add_sm hw]
  rfl
theorem pack_u (V : Nat → Eight) (n : Nat) (hV : okV V n) : uP (mkP n) (packE V n) = packF (fun i => uN (V i)) n := by
  have h1 : Sm (fun i => (V i).a) n := fun i hi => (hV i hi).1
  have h2 : Sm (fun i => (V i).b) n := fun i hi => (hV i hi).2.1
  have h3 : Sm (fun i => (V i).c) n := fun i hi => (hV i hi).2.2.1
  have he : Sm (fun i => eps0 (V i).a) n := xor_sm (xor_sm (rot_sm 2 h1) (rot_sm 13 h1)) (rot_sm 22 h1)
  have hm : Sm (fun i => majN (V i).a (V i).b (V i).c) n := xor_sm (xor_sm (and_sm h1) (and_sm h1)) (and_sm h2)
  unfold uP packE
  simp only
  rw [pack_eps0 _ _ h1, pack_maj _ _ _ _ h1 h2 h3, pack_add _ _ _ he hm]
  rfl
/-- The rounds, for the kernel: O is one in every lane. -/
def goP (M O : Nat) : List Nat → List Nat → Nat → Nat → Nat → Nat → Nat → Nat → Nat → Nat → (Eight → Nat) → Nat
  | k :: ks, w :: ws, a, b, c, d, e, f, g, h, z =>
    force (tP M ⟨a, b, c, d, e, f, g, h⟩ (k * O) w) fun t =>
    force (addP M t (uP M ⟨a, b, c, d, e, f, g, h⟩)) fun a' =>
    force (addP M d t) fun e' => goP M O ks ws a' a b c e' e f g z
  | _, _, a, b, c, d, e, f, g, h, z => z ⟨a, b, c, d, e, f, g, h⟩
theorem pack_mul (k n : Nat) : k * packF (fun _ => 1) n = packF (fun _ => k) n := by
  induction n with
  | zero => rfl
  | succ n ih => unfold packF; rw [Nat.mul_add, ih, Nat.mul_one, Nat.mul_comm k]
theorem goP_eq (ks : List Nat) (hks : ∀ k ∈ ks, k < 4294967296) (n : Nat) (z : Eight → Nat) : ∀ (ws : List (Nat → Nat)) (V : Nat → Eight), (∀ w ∈ ws, Sm w n) → okV V n →
    goP (mkP n) (packF (fun _ => 1) n) ks (ws.map (packF · n)) (packE V n).a (packE V n).b (packE V n).c (packE V n).d (packE V n).e (packE V n).f (packE V n).g (packE V n).h z = z (packE (fun i => runE ks (ws.map (· i)) (V i)) n) := by
  induction ks with
  | nil => intro ws V _ _; unfold goP runE; rfl
  | cons k ks ih =>
    intro ws V hw hV
    cases ws with
    | nil => unfold goP runE; rfl
    | cons w ws =>
      have hk : Sm (fun _ => k) n := fun _ _ => hks k (List.mem_cons_self ..)
      have hw1 : Sm w n := hw w (List.mem_cons_self ..)
      have h4 : Sm (fun i => (V i).d) n := fun i hi => (hV i hi).2.2.2.1
      have ht : Sm (fun i => tN (V i) k (w i)) n := fun i hi => Nat.mod_lt _ (by decide)
      have hu : Sm (fun i => uN (V i)) n := fun i hi => Nat.mod_lt _ (by decide)
      rw [List.map_cons]
      unfold goP
      simp only [force_eq]
      rw [show (⟨(packE V n).a, (packE V n).b, (packE V n).c, (packE V n).d, (packE V n).e, (packE V n).f, (packE V n).g, (packE V n).h⟩ : Eight) = packE V n from rfl]
      rw [pack_mul, pack_t V (fun _ => k) w n hV hk hw1, pack_u V n hV, pack_add _ _ _ ht hu]
      rw [show (packE V n).d = packF (fun i => (V i).d) n from rfl, pack_add _ _ _ h4 ht]
      have := ih (fun k hk => hks k (List.mem_cons_of_mem _ hk)) ws (fun i => stepE (V i) k (w i)) (fun w hw' => hw w (List.mem_cons_of_mem _ hw')) (fun i hi => stepE_ok (V i) k (w i) (hV i hi))
      rw [show (fun i => runE (k :: ks) ((w :: ws).map (· i)) (V i)) = fun i => runE ks (ws.map (· i)) (stepE (V i) k (w i)) from rfl]
      rw [← this]
      rfl

/-! ### The schedule -/
def nextP (M : Nat) (w : List Nat) : Nat := addP M (addP M (addP M (w.getD (w.length - 16) 0) (sig0P M (w.getD (w.length - 15) 0))) (w.getD (w.length - 7) 0)) (sig1P M (w.getD (w.length - 2) 0))
def schedP (M : Nat) : Nat → List Nat → (List Nat → Nat) → Nat
  | 0, w, z => z w
  | j + 1, w, z => force (nextP M w) fun x => schedP M j (w ++ [x]) z
def zeroF : Nat → Nat := fun _ => 0
theorem getD_map (ws : List (Nat → Nat)) (n j : Nat) (hj : j < ws.length) : (ws.map (packF · n)).getD j 0 = packF (ws.getD j zeroF) n := by
  rw [List.getD_eq_getElem?_getD, List.getD_eq_getElem?_getD, List.getElem?_map, List.getElem?_eq_getElem hj]; rfl
theorem getD_lane (ws : List (Nat → Nat)) (i j : Nat) (hj : j < ws.length) : (ws.map (· i)).getD j 0 = ws.getD j zeroF i := by
  rw [List.getD_eq_getElem?_getD, List.getD_eq_getElem?_getD, List.getElem?_map, List.getElem?_eq_getElem hj]; rfl
theorem getD_sm (ws : List (Nat → Nat)) (n j : Nat) (hw : ∀ w ∈ ws, Sm w n) : Sm (ws.getD j zeroF) n := by
  rw [List.getD_eq_getElem?_getD]
  by_cases hj : j < ws.length
  · rw [List.getElem?_eq_getElem hj]; exact hw _ (List.getElem_mem hj)
  · rw [List.getElem?_eq_none (by omega)]; intro i _; show 0 < _; decide
/-- The next word of every lane. -/
def nextF (ws : List (Nat → Nat)) : Nat → Nat := fun i => nextW (ws.map (· i))
theorem nextF_sm (ws : List (Nat → Nat)) (n : Nat) : Sm (nextF ws) n := fun _ _ => Nat.mod_lt _ (by decide)
theorem sig0_sm {f : Nat → Nat} {n : Nat} (h : Sm f n) : Sm (fun i => sig0 (f i)) n := xor_sm (xor_sm (rot_sm 7 h) (rot_sm 18 h)) (shr_sm 3 h)
theorem sig1_sm {f : Nat → Nat} {n : Nat} (h : Sm f n) : Sm (fun i => sig1 (f i)) n := xor_sm (xor_sm (rot_sm 17 h) (rot_sm 19 h)) (shr_sm 10 h)
theorem pack_next (ws : List (Nat → Nat)) (n : Nat) (hl : 16 ≤ ws.length) (hw : ∀ w ∈ ws, Sm w n) : nextP (mkP n) (ws.map (packF · n)) = packF (nextF ws) n := by
  unfold nextP
  rw [List.length_map, getD_map _ _ _ (by omega), getD_map _ _ _ (by omega), getD_map _ _ _ (by omega), getD_map _ _ _ (by omega)]
  have g0 := getD_sm ws n (ws.length - 16) hw
  have g1 := getD_sm ws n (ws.length - 15) hw
  have g2 := getD_sm ws n (ws.length - 7) hw
  have g3 := getD_sm ws n (ws.length - 2) hw
  rw [pack_sig0 _ _ g1, pack_sig1 _ _ g3, pack_add _ _ _ g0 (sig0_sm g1), pack_add _ _ _ add_sm g2, pack_add _ _ _ add_sm (sig1_sm g3)]
  apply packF_cong
  intro i _
  unfold nextF nextW
  rw [List.length_map, getD_lane _ _ _ (by omega), getD_lane _ _ _ (by omega), getD_lane _ _ _ (by omega), getD_lane _ _ _ (by omega)]
def schedL : Nat → List (Nat → Nat) → List (Nat → Nat)
  | 0, ws => ws
  | j + 1, ws => schedL j (ws ++ [nextF ws])
theorem schedL_lane (j : Nat) (i : Nat) : ∀ ws : List (Nat → Nat), (schedL j ws).map (· i) = schedK j (ws.map (· i)) := by
  induction j with
  | zero => intro ws; rfl
  | succ j ih =>
    intro ws
    show (schedL j (ws ++ [nextF ws])).map (· i) = force (nextW (ws.map (· i))) fun x => schedK j (ws.map (· i) ++ [x])
    rw [ih, force_eq, List.map_append]
    rfl
theorem schedL_sm (j n : Nat) : ∀ ws : List (Nat → Nat), (∀ w ∈ ws, Sm w n) → ∀ w ∈ schedL j ws, Sm w n := by
  induction j with
  | zero => intro ws h; exact h
  | succ j ih =>
    intro ws h
    refine ih _ (fun w hw => ?_)
    rcases List.mem_append.1 hw with e | e
    · exact h w e
    · rw [List.mem_singleton.1 e]; exact nextF_sm ws n
theorem schedP_eq (j n : Nat) (z : List Nat → Nat) : ∀ ws : List (Nat → Nat), 16 ≤ ws.length → (∀ w ∈ ws, Sm w n) → schedP (mkP n) j (ws.map (packF · n)) z = z ((schedL j ws).map (packF · n)) := by
  induction j with
  | zero => intro ws _ _; rfl
  | succ j ih =>
    intro ws hl hw
    show force (nextP (mkP n) (ws.map (packF · n))) (fun x => schedP (mkP n) j (ws.map (packF · n) ++ [x]) z) = _
    rw [force_eq, pack_next ws n hl hw]
    have := ih (ws ++ [nextF ws]) (by rw [List.length_append]; omega) (fun w hw' => by
      rcases List.mem_append.1 hw' with e | e
      · exact hw w e
      · rw [List.mem_singleton.1 e]; exact nextF_sm ws n)
    rw [List.map_append] at this
    exact this
/-- The first words of the digests of strings of one block. -/
def firstP (M O : Nat) (ks : List Nat) (v : Eight) (j : Nat) (ws : List Nat) : Nat :=
  schedP M j ws fun w => goP M O ks w (v.a * O) (v.b * O) (v.c * O) (v.d * O) (v.e * O) (v.f * O) (v.g * O) (v.h * O) fun x => addP M (v.a * O) x.a
theorem initE_ok : okE initE := by unfold okE initE; decide
theorem shaK_lt : ∀ k ∈ shaK, k < 4294967296 := by decide
theorem runE_ok (ks : List Nat) : ∀ (ws : List Nat) (v : Eight), okE v → okE (runE ks ws v) := by
  induction ks with
  | nil => intro ws v h; unfold runE; exact h
  | cons k ks ih =>
    intro ws v h
    cases ws with
    | nil => unfold runE; exact h
    | cons w ws => unfold runE; exact ih ws _ (stepE_ok v k w h)
theorem firstP_eq (ks : List Nat) (hks : ∀ k ∈ ks, k < 4294967296) (v : Eight) (hv : okE v) (j : Nat) (ws : List (Nat → Nat)) (n : Nat) (hl : 16 ≤ ws.length) (hw : ∀ w ∈ ws, Sm w n) :
    firstP (mkP n) (packF (fun _ => 1) n) ks v j (ws.map (packF · n)) = packF (fun i => (v.a + (runE ks (schedK j (ws.map (· i))) v).a) % 4294967296) n := by
  unfold firstP
  rw [schedP_eq j n _ ws hl hw]
  rw [pack_mul, pack_mul, pack_mul, pack_mul, pack_mul, pack_mul, pack_mul, pack_mul]
  have h := goP_eq ks hks n (fun x => addP (mkP n) (packF (fun _ => v.a) n) x.a) (schedL j ws) (fun _ => v) (schedL_sm j n ws hw) (fun _ _ => hv)
  refine Eq.trans h ?_
  show addP (mkP n) (packF (fun _ => v.a) n) (packF (fun i => (runE ks ((schedL j ws).map (· i)) v).a) n) = _
  rw [pack_add _ _ _ (fun _ _ => hv.1) (fun i _ => (runE_ok _ _ _ hv).1)]
  apply packF_cong
  intro i _
  rw [schedL_lane]
/-- The first word of the digest of a string of one block. -/
theorem first_word (w : List Nat) (hl : w.length = 16) : (addE initE (roundsN (schedN w 48) initE 64)).a = (initE.a + (runE shaK (schedK 48 w) initE).a) % 4294967296 := by
  rw [schedK_eq]
  have h := roundsN_run (schedN w 48) initE 64 0 rfl (by rw [schedN_length]; omega)
  rw [show roundsN (schedN w 48) initE 0 = initE from rfl, List.drop_zero, List.drop_zero] at h
  rw [h]
  rfl
/-- One lane. -/
theorem lane_eq (f : Nat → Nat) (n : Nat) (h : Sm f n) (i : Nat) (hi : i < n) : (packF f n >>> (64 * i)) % 4294967296 = f i := by
  apply Nat.eq_of_testBit_eq
  intro j
  rw [show (4294967296 : Nat) = 2 ^ 32 by decide, Nat.testBit_mod_two_pow, Nat.testBit_shiftRight]
  by_cases hj : j < 32
  · rw [packF_bit f n h.big _ _ (by omega)]
    simp [hj, hi]
  · rw [bit_small (h i hi) (by omega)]
    simp [hj]
end Go.Proofs.YtmhphmolbjjopaaDoor
