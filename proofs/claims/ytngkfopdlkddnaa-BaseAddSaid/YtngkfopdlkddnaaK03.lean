/- The walk of WireUnique: for every string, integer and byte it returns true, and nothing that was there has changed. Conditions: the integer is an int64, the table reads as the program lays it. | Contracts of the reference implementation of layer 1: they return what the plain functions say. Conditions: lengths that fit memory. | Contracts of the reference implementation's Int, String and PutString: they return what the plain functions say. Conditions: lengths that fit memory. | Contracts of the reference implementation's Int, String and PutString for every offset: they return what the plain functions say. Conditions: lengths that fit memory. | Plain mathematics of facts: their encoding, its reader, which facts are valid, which prevail. It imports nothing of the program. -/
import Derived.Test.YtngkfopdlkddnaaK02
import Derived.RegionTactic
import Derived.ChangeAlike
import Derived.Maps.AppendAt
import Derived.RangeFuncBox
import Derived.Test.YtngkfopdlkddnaaK01
namespace Go.Proofs.Ytngkfopdlkddnaa
open Go.RowKit
theorem piece_eq (t : ByteArray) (q m : Nat) (l : List UInt8) (h : (t.data.toList.take m).drop q = l) : ((t.extract q m).toList == l) = true := by
  rw [ByteArray.toList_eq, Lib.extract_data, ← List.drop_take, h]
  simp

end Go.Proofs.Ytngkfopdlkddnaa
namespace Go.Proofs.Ytngkfopdlkddnaa
open Go.RowKit
def cells8 (l : List UInt8) : List Value := l.map fun b => .int .u8 ((b.toNat : Nat) : Int)

theorem cells8_snoc (l : List UInt8) (b : UInt8) (v : Int) (h : ((b.toNat : Nat) : Int) = v) : cells8 (l ++ [b]) = cells8 l ++ [.int .u8 v] := by
  unfold cells8; rw [List.map_append, ← h]; rfl

theorem row_string {w : World} {base g n cap : Nat} {l : List UInt8} (hl : l.length = n) (h : w.ownsRow base 5 1 (.slice (some ⟨g, 0, none⟩) n cap) n (cells8 l)) :
    (convert 101 9 (.slice (some ⟨g, 0, none⟩) n cap)).run Try.prog w = .ok (.string ⟨l.toArray⟩) w := by
  have hcv := run_convert_bytes_arg (P := Try.prog) w 101 5 Try.underlying101 Try.underlying5 g 0 n cap (l.map fun b => ((b.toNat : Nat) : Int)) (by simpa using hl) (fun j hj => by
    have hjl : j < l.length := by omega
    have h1 : (cells8 l)[j]? = some (.int .u8 ((l.map fun b => ((b.toNat : Nat) : Int)).getD j 0)) := by
      unfold cells8
      simp [List.getElem?_map, List.getElem?_eq_getElem hjl]
    have h2 := World.ownsRow.cells h rfl _ _ h1
    have e : Addr.add ⟨g, 0, none⟩ j = ⟨g, 0 + j, none⟩ := by unfold Addr.add; split <;> simp_all
    rw [e] at h2
    exact h2) 9 Try.underlying9
  rw [str_bytes] at hcv
  exact hcv

theorem add_walk (y b k : Nat) (hk : k ≤ 8) (hy : y < 128 ^ k) :
    ((b : Int) % 128 * 2 ^ (7 * k)) = ((b % 128 * 128 ^ k : Nat) : Int) ∧ b % 128 * 128 ^ k ≤ 127 * 72057594037927936 ∧ y ≤ 72057594037927936 := by
  have h2 : 128 ^ k ≤ 128 ^ 8 := Nat.pow_le_pow_right (by omega) hk
  have h4 : 128 ^ 8 = 72057594037927936 := by decide
  have h3 : b % 128 * 128 ^ k ≤ 127 * 72057594037927936 := Nat.mul_le_mul (by omega) (by omega)
  have e128 : (128 : Nat) ^ k = 2 ^ (7 * k) := by rw [Nat.pow_mul]
  refine ⟨?_, h3, by omega⟩
  rw [e128]
  simp

theorem ref_same (s : ByteArray) (p k : Nat) (n : Int) (h : getI s.data.toList p = some (n, p + (k + 1))) : (putI n == (s.extract p (p + k + 1)).toList) = true := by
  have h5 := (getI_sound _ _ _ _ h).2.2.2.2
  have := piece_eq s p (p + (k + 1)) _ h5
  rw [beq_iff_eq] at this ⊢
  rw [← this]; rfl
theorem ref_part (s : ByteArray) (p k : Nat) (n : Int) (hp : p ≤ s.size) (h : getI s.data.toList p = none) (hf : Fits n) : (putI n == (s.extract p (p + k + 1)).toList) = false := by
  rw [beq_eq_false_iff_ne]
  intro he
  rw [ByteArray.toList_eq, Lib.extract_data, show p + k + 1 - p = k + 1 by omega] at he
  have h1 := getI_putI n (s.data.toList.take p) ((s.data.toList.drop p).drop (k + 1)) hf
  have h2 : s.data.toList.take p ++ putI n ++ (s.data.toList.drop p).drop (k + 1) = s.data.toList := by
    rw [he, List.append_assoc, List.take_append_drop, List.take_append_drop]
  have h3 : (s.data.toList.take p).length = p := by rw [List.length_take]; simp; omega
  rw [h2, h3, h] at h1
  cases h1

end Go.Proofs.Ytngkfopdlkddnaa
namespace Go.Proofs.Ytngkfopdlkddnaa

/-- The encodings of the first k numbers, one after the other. -/
def encN (v : Nat → Int) : Nat → List UInt8
  | 0 => []
  | k + 1 => encN v k ++ putI (v k)
/-- The encoding of a fact: 17 numbers and a text. -/
def encV (v : Nat → Int) (t : List UInt8) : List UInt8 := encN v 17 ++ putS t

/-- The first k numbers of a string, and where they end. -/
def rdA (s : List UInt8) : Nat → Option (List Int × Nat)
  | 0 => some ([], 0)
  | k + 1 =>
    match rdA s k with
    | none => none
    | some (l, a) =>
      match getI s a with
      | none => none
      | some (n, e) => some (l ++ [n], e)
/-- The numbers and the text that a string consists of. -/
def rdF (s : List UInt8) : Option (List Int × List UInt8) :=
  match rdA s 17 with
  | none => none
  | some (l, a) =>
    match getS s a with
    | none => none
    | some (t, e) => if e < s.length then none else some (l, t)
/-- A list of numbers as a function. -/
def nthI (l : List Int) (i : Nat) : Int := l.getD i 0

theorem nthI_snoc (l : List Int) (n : Int) (i : Nat) : nthI (l ++ [n]) i = if i = l.length then n else nthI l i := by
  unfold nthI
  simp only [List.getD_eq_getElem?_getD]
  rcases Nat.lt_trichotomy i l.length with h | h | h
  · rw [if_neg (by omega), List.getElem?_append_left h]
  · subst h; rw [if_pos rfl, List.getElem?_append_right (Nat.le_refl _)]; simp
  · rw [if_neg (by omega), List.getElem?_eq_none (by simp; omega), List.getElem?_eq_none (by omega)]
theorem nthI_range (v : Nat → Int) (k i : Nat) (h : i < k) : nthI ((List.range k).map v) i = v i := by
  unfold nthI
  simp [List.getD_eq_getElem?_getD, h]

theorem encN_congr (u v : Nat → Int) (k : Nat) (h : ∀ i, i < k → u i = v i) : encN u k = encN v k := by
  induction k with
  | zero => rfl
  | succ k ih => rw [encN, encN, ih (fun i hi => h i (by omega)), h k (by omega)]
theorem encV_congr (u v : Nat → Int) (t : List UInt8) (h : ∀ i, i < 17 → u i = v i) : encV u t = encV v t := by
  unfold encV; rw [encN_congr u v 17 h]

theorem rdA_some (s : List UInt8) (k : Nat) : ∀ l a, rdA s k = some (l, a) → l.length = k ∧ a ≤ s.length ∧ (∀ i, Fits (nthI l i)) ∧ s.take a = encN (nthI l) k := by
  induction k with
  | zero =>
    intro l a h
    simp only [rdA, Option.some.injEq, Prod.mk.injEq] at h
    obtain ⟨rfl, rfl⟩ := h
    exact ⟨rfl, Nat.zero_le _, fun i => by unfold nthI Fits; simp, rfl⟩
  | succ k ih =>
    intro l a h
    rw [rdA] at h
    cases hr : rdA s k with
    | none => rw [hr] at h; cases h
    | some q =>
      obtain ⟨l0, a0⟩ := q
      rw [hr] at h
      simp only at h
      obtain ⟨h1, h2, h3, h4⟩ := ih l0 a0 hr
      cases hg : getI s a0 with
      | none => rw [hg] at h; cases h
      | some q =>
        obtain ⟨n, e⟩ := q
        rw [hg] at h
        simp only [Option.some.injEq, Prod.mk.injEq] at h
        obtain ⟨rfl, rfl⟩ := h
        obtain ⟨g1, g2, g3, g4, g5⟩ := getI_sound _ _ _ _ hg
        refine ⟨by simp [h1], g3, fun i => ?_, ?_⟩
        · rw [nthI_snoc]; split
          · exact g1
          · exact h3 i
        · rw [encN]
          rw [encN_congr (nthI (l0 ++ [n])) (nthI l0) k (fun i hi => by rw [nthI_snoc, if_neg (by omega)]), nthI_snoc, if_pos h1.symm, ← h4]
          rw [← g5]
          have e1 : s.take a0 = (s.take e).take a0 := by rw [List.take_take, Nat.min_eq_left (by omega)]
          rw [e1, List.take_append_drop]

theorem rdA_enc (v : Nat → Int) (q : List UInt8) (k : Nat) (h : ∀ i, i < k → Fits (v i)) : rdA (encN v k ++ q) k = some ((List.range k).map v, (encN v k).length) := by
  induction k generalizing q with
  | zero => rfl
  | succ k ih =>
    rw [rdA, encN, List.append_assoc, ih (putI (v k) ++ q) (fun i hi => h i (by omega))]
    simp only
    rw [← List.append_assoc, getI_putI _ _ _ (h k (by omega))]
    simp only [List.length_append, List.range_succ, List.map_append, List.map_cons, List.map_nil]

/-- What is encoded can be encoded: the numbers fit, the text is no longer than a string may be. -/
def FitsF (v : Nat → Int) (t : List UInt8) : Prop := (∀ i, i < 17 → Fits (v i)) ∧ t.length ≤ 65536

theorem rdF_more (v : Nat → Int) (t q : List UInt8) (h : FitsF v t) : rdF (encV v t ++ q) = if 0 < q.length then none else some ((List.range 17).map v, t) := by
  unfold rdF encV
  rw [List.append_assoc, rdA_enc v _ 17 h.1]
  simp only
  rw [← List.append_assoc, getS_putS _ _ _ h.2]
  simp only [List.length_append]
  by_cases hq : 0 < q.length
  · rw [if_pos (by omega), if_pos hq]
  · rw [if_neg (by omega), if_neg hq]
theorem rdF_enc (v : Nat → Int) (t : List UInt8) (h : FitsF v t) : rdF (encV v t) = some ((List.range 17).map v, t) := by
  have := rdF_more v t [] h
  rw [List.append_nil] at this
  exact this

theorem rdF_some (s : List UInt8) (l : List Int) (t : List UInt8) (h : rdF s = some (l, t)) : l.length = 17 ∧ FitsF (nthI l) t ∧ s = encV (nthI l) t := by
  unfold rdF at h
  cases hr : rdA s 17 with
  | none => rw [hr] at h; cases h
  | some q =>
    obtain ⟨l0, a0⟩ := q
    rw [hr] at h
    simp only at h
    obtain ⟨h1, h2, h3, h4⟩ := rdA_some s 17 l0 a0 hr
    cases hg : getS s a0 with
    | none => rw [hg] at h; cases h
    | some q =>
      obtain ⟨t0, e⟩ := q
      rw [hg] at h
      simp only at h
      by_cases he : e < s.length
      · rw [if_pos he] at h; cases h
      · rw [if_neg he] at h
        simp only [Option.some.injEq, Prod.mk.injEq] at h
        obtain ⟨rfl, rfl⟩ := h
        obtain ⟨g1, g2, g3, g4⟩ := getS_sound _ _ _ _ hg
        refine ⟨h1, ⟨fun i _ => h3 i, g1⟩, ?_⟩
        have e1 : s.take e = s := List.take_of_length_le (by omega)
        rw [e1] at g4
        unfold encV
        rw [← h4, ← g4, List.take_append_drop]

/-- Two encodings of which one begins the other are those of the same numbers and the same text. -/
theorem encV_prefix (u v : Nat → Int) (a b q : List UInt8) (hu : FitsF u a) (hv : FitsF v b) (h : encV v b = encV u a ++ q) : (∀ i, i < 17 → u i = v i) ∧ a = b ∧ q = [] := by
  have h1 := rdF_enc v b hv
  rw [h, rdF_more u a q hu] at h1
  by_cases hq : 0 < q.length
  · rw [if_pos hq] at h1; cases h1
  · rw [if_neg hq] at h1
    simp only [Option.some.injEq, Prod.mk.injEq] at h1
    refine ⟨fun i hi => ?_, h1.2, List.eq_nil_of_length_eq_zero (by omega)⟩
    have := congrArg (fun l => nthI l i) h1.1
    simpa only [nthI_range _ _ _ hi] using this
theorem encV_inj (u v : Nat → Int) (a b : List UInt8) (hu : FitsF u a) (hv : FitsF v b) (h : encV u a = encV v b) : (∀ i, i < 17 → u i = v i) ∧ a = b := by
  have := encV_prefix u v a b [] hu hv (by rw [List.append_nil, h])
  exact ⟨this.1, this.2.1⟩
theorem rdF_short (v : Nat → Int) (t : List UInt8) (hv : FitsF v t) (j : Nat) (hj : j < (encV v t).length) : rdF ((encV v t).take j) = none := by
  cases hr : rdF ((encV v t).take j) with
  | none => rfl
  | some q =>
    obtain ⟨l, b⟩ := q
    obtain ⟨h1, h2, h3⟩ := rdF_some _ _ _ hr
    have h4 := encV_prefix (nthI l) v b t ((encV v t).drop j) h2 hv (by rw [← h3, List.take_append_drop])
    have := congrArg List.length h4.2.2
    simp only [List.length_drop, List.length_nil] at this
    omega
theorem encN_length (v : Nat → Int) (k : Nat) : k ≤ (encN v k).length ∧ (encN v k).length ≤ 9 * k := by
  induction k with
  | zero => exact ⟨Nat.le_refl _, Nat.le_refl _⟩
  | succ k ih => rw [encN, List.length_append]; have := putI_length (v k); omega
theorem encV_length (v : Nat → Int) (t : List UInt8) : 18 ≤ (encV v t).length ∧ (encV v t).length ≤ 162 + t.length := by
  unfold encV putS
  have := encN_length v 17
  have := putI_length (t.length : Int)
  simp only [List.length_append]
  omega

/-! ### Which facts are valid -/
/-- The ranges of the measures that a kind uses: place, least, most. -/
def rgL (k : Int) : List (Nat × Int × Int) :=
  if k = 1 then [(1, 1, 1000000), (5, 1, 1000000), (6, 1, 1000000), (7, 1, 1000000), (8, 0, 7), (4, 0, 3155759999), (13, 0, 86400000), (16, 0, 1)]
  else if k = 2 then [(1, 1, 1000000), (6, 1, 1000000), (16, 1, 3)]
  else if k = 3 then [(1, 1, 1000000), (7, 1, 1000000), (9, 1, 1000000), (10, 1, 2), (8, 1, 255), (11, 0, 1199), (12, 1, 1200), (14, 0, 1000000)]
  else if k = 4 then [(9, 1, 1000000), (11, 0, 1199), (17, 0, 2000)]
  else if k = 5 then [(1, 1, 1000000), (3, 0, 1199), (8, 0, 7), (13, 0, 10000000000), (15, 0, 20)]
  else if k = 6 then [(5, 1, 1000000), (3, 0, 1199), (8, 0, 7), (13, 0, 1000000000), (15, 0, 20)]
  else if k = 7 then [(15, 1, 20), (3, 0, 1199), (13, 1, 10000000)]
  else if k = 8 then [(1, 1, 1000000), (5, 1, 1000), (3, 0, 1199), (13, 0, 100000000000)]
  else if k = 9 then [(11, 0, 1199), (17, 0, 2000)]
  else if k = 10 then [(8, 0, 7), (11, 0, 1199), (16, 1, 2)]
  else []
/-- The range at a place: that of a field that is not used holds 0 alone. -/
def rgOf : List (Nat × Int × Int) → Nat → Int × Int
  | [], _ => (0, 0)
  | p :: l, i => if p.1 = i then p.2 else rgOf l i
/-- The measures of a fact with a text of n bytes. -/
def msr (v : Nat → Int) (n : Int) (i : Nat) : Int := if i = 0 ∨ i = 2 then 0 else if i = 17 then n else v i
/-- The kinds. -/
def Known (k : Int) : Prop := 1 ≤ k ∧ k ≤ 10
/-- The first m measures are in their ranges. -/
def InR (v : Nat → Int) (n : Int) (m : Nat) : Prop := ∀ i, i < m → (rgOf (rgL (v 0)) i).1 ≤ msr v n i ∧ msr v n i ≤ (rgOf (rgL (v 0)) i).2
/-- A fact with these numbers and a text of n bytes is valid. -/
def okF (v : Nat → Int) (n : Int) : Prop := Known (v 0) ∧ (1 ≤ v 2 ∧ v 2 ≤ 1000) ∧ InR v n 18 ∧ (v 0 = 3 → v 11 < v 12)
instance (v : Nat → Int) (n : Int) (m : Nat) : Decidable (InR v n m) := by unfold InR; infer_instance
instance (k : Int) : Decidable (Known k) := by unfold Known; infer_instance
instance (v : Nat → Int) (n : Int) : Decidable (okF v n) := by unfold okF; infer_instance
def okB (v : Nat → Int) (n : Int) : Bool := decide (okF v n)

theorem okF_cong (u v : Nat → Int) (n : Int) (h : ∀ i, i < 17 → u i = v i) : okF u n ↔ okF v n := by
  have hm : ∀ i, i < 18 → msr u n i = msr v n i := by
    intro i hi
    unfold msr
    split
    · rfl
    · split
      · rfl
      · exact h i (by omega)
  unfold okF InR
  rw [h 0 (by omega), h 2 (by omega), h 11 (by omega), h 12 (by omega)]
  constructor
  · rintro ⟨a, b, c, d⟩; exact ⟨a, b, fun i hi => by rw [← hm i hi]; exact c i hi, d⟩
  · rintro ⟨a, b, c, d⟩; exact ⟨a, b, fun i hi => by rw [hm i hi]; exact c i hi, d⟩

theorem rg_small (k : Int) (i : Nat) : 0 ≤ (rgOf (rgL k) i).1 ∧ (rgOf (rgL k) i).2 ≤ 100000000000 := by
  unfold rgL
  (repeat' split) <;> simp only [rgOf] <;> (repeat' split) <;> omega
theorem okF_fits (v : Nat → Int) (n : Nat) (t : List UInt8) (ht : t.length = n) (h : okF v n) : FitsF v t := by
  obtain ⟨h1, h2, h3, -⟩ := h
  have hb : ∀ i, i < 18 → 0 ≤ msr v n i ∧ msr v n i ≤ 100000000000 := fun i hi => by
    have a := h3 i hi
    have b := rg_small (v 0) i
    omega
  refine ⟨fun i hi => ?_, ?_⟩
  · have := hb i (by omega)
    unfold msr at this
    unfold Known at h1
    unfold Fits
    by_cases h0 : i = 0
    · subst h0; omega
    · by_cases h2' : i = 2
      · subst h2'; omega
      · rw [if_neg (by omega), if_neg (by omega)] at this; omega
  · have h17 := h3 17 (by omega)
    have e : msr v n 17 = n := by unfold msr; rw [if_neg (by omega), if_pos rfl]
    rw [e] at h17
    have : (rgOf (rgL (v 0)) 17).2 ≤ 2000 := by
      unfold rgL
      (repeat' split) <;> simp only [rgOf] <;> (repeat' split) <;> omega
    omega

/-! ### What a fact is about, and which one prevails -/
/-- The two numbers of a key. -/
def kyF (v : Nat → Int) : Int × Int :=
  if v 0 = 1 ∨ v 0 = 2 then (v 6, v 1)
  else if v 0 = 3 ∨ v 0 = 5 ∨ v 0 = 8 then (v 1, 0)
  else if v 0 = 4 then (v 9, v 11)
  else if v 0 = 6 then (v 5, v 3)
  else if v 0 = 7 then (v 15, v 3)
  else if v 0 = 9 then (v 11, 0)
  else if v 0 = 10 then (v 8, v 11)
  else (0, 0)
/-- The keys are the same. -/
def kyB (u v : Nat → Int) : Bool := decide (u 0 = v 0 ∧ kyF u = kyF v)

theorem bl_irr : ∀ x : List UInt8, Op.bytesLess x x = false := by
  intro x
  induction x with
  | nil => rfl
  | cons a x ih => unfold Op.bytesLess; simp [ih]
theorem bl_tri : ∀ x y : List UInt8, x ≠ y → Op.bytesLess x y = !Op.bytesLess y x := by
  intro x
  induction x with
  | nil => intro y h; cases y with | nil => exact absurd rfl h | cons b y => rfl
  | cons a x ih =>
    intro y h
    cases y with
    | nil => rfl
    | cons b y =>
      unfold Op.bytesLess
      by_cases hab : a = b
      · subst hab
        have := ih y (fun e => h (by rw [e]))
        simp [this]
      · have h1 : (a == b) = false := by simpa using hab
        have h2 : (b == a) = false := by simpa using Ne.symm hab
        rw [h1, h2]
        have h3 : ¬ a.toNat = b.toNat := fun e => hab (UInt8.toNat_inj.1 e)
        have e1 : decide (a < b) = decide (a.toNat < b.toNat) := rfl
        have e2 : decide (b < a) = decide (b.toNat < a.toNat) := rfl
        simp only [Bool.false_and, Bool.or_false, e1, e2]
        by_cases h4 : a.toNat < b.toNat
        · rw [decide_eq_true h4, decide_eq_false (by omega)]; rfl
        · rw [decide_eq_false h4, decide_eq_true (by omega)]; rfl
theorem bl_trans : ∀ x y z : List UInt8, Op.bytesLess x y = true → Op.bytesLess y z = true → Op.bytesLess x z = true := by
  intro x
  induction x with
  | nil => intro y z _ h; cases z with | nil => cases y <;> cases h | cons c z => rfl
  | cons a x ih =>
    intro y z h1 h2
    cases y with
    | nil => cases h1
    | cons b y =>
      cases z with
      | nil => cases h2
      | cons c z =>
        unfold Op.bytesLess at h1 h2 ⊢
        simp only [Bool.or_eq_true, decide_eq_true_eq, Bool.and_eq_true, beq_iff_eq, UInt8.lt_iff_toNat_lt] at h1 h2 ⊢
        rcases h1 with h1 | ⟨rfl, h1⟩
        · rcases h2 with h2 | ⟨rfl, h2⟩
          · left; omega
          · left; exact h1
        · rcases h2 with h2 | ⟨rfl, h2⟩
          · left; exact h2
          · right; exact ⟨rfl, ih y z h1 h2⟩

end Go.Proofs.Ytngkfopdlkddnaa
