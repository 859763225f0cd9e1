/- The contract of package wire's Int: for every string and offset it returns what the plain reader finds. Condition: the string's length fits an int. -/
import Derived.Test.YtnbeebndcgoalaaDoorWSmall
namespace Go.Proofs.YtnbeebndcgoalaaDoor
open Go.RowKit
/-- What Int returns: value, end, errno. -/
def intF (s : List UInt8) (a : Int) : Int × Int × Int :=
  if a < 0 ∨ (s.length : Int) < a then (0, 0, 2) else
  match getI s a.toNat with
  | none => (0, 0, 10)
  | some (n, e) => (n, (e : Int), 0)

/-- What is still to be read, glued to what has been read. -/
def glue (z i : Nat) : Option (Nat × Nat) → Option (Nat × Nat)
  | none => none
  | some (y, c) => some (z + 128 ^ i * y, i + c)

theorem glue_step (z i k : Nat) (first : Bool) (b : UInt8) (t : List UInt8) (hb : ¬ b.toNat < 128) :
    glue z i (read (k + 1) first (b :: t)) = glue (z + b.toNat % 128 * 128 ^ i) (i + 1) (read k false t) := by
  rw [read, if_neg hb]
  cases read k false t with
  | none => rfl
  | some p =>
    obtain ⟨y, c⟩ := p
    have hlt := b.toNat_lt
    simp only [glue, Option.some.injEq, Prod.mk.injEq]
    refine ⟨?_, by omega⟩
    rw [show b.toNat % 128 = b.toNat - 128 by omega, Nat.pow_succ, Nat.mul_add, Nat.mul_comm (128 ^ i) (b.toNat - 128), ← Nat.mul_assoc, Nat.add_assoc]

theorem or_add (z b i : Nat) (hz : z < 128 ^ i) : z ||| (b * 128 ^ i) = z + b * 128 ^ i := by
  have e : 128 ^ i = 2 ^ (7 * i) := by rw [Nat.pow_mul]
  rw [e] at hz ⊢
  rw [Nat.or_comm, Nat.mul_comm, ← Nat.two_pow_add_eq_or_of_lt hz b, Nat.add_comm]

theorem ofInt64 (x : Nat) (h : x < 18446744073709551616) : (BitVec.ofInt 64 (x : Int)).toNat = x := by
  rw [BitVec.ofInt_natCast, BitVec.toNat_ofNat]; exact Nat.mod_eq_of_lt (by omega)
theorem or64 (x y : Nat) (hx : x < 9223372036854775808) (hy : y < 9223372036854775808) : bits .or .i64 (x : Int) (y : Int) = ((x ||| y : Nat) : Int) := by
  have hz : x ||| y < 2 ^ 63 := Nat.or_lt_two_pow (by omega) (by omega)
  show IntKind.i64.wrap ((BitVec.ofInt 64 (x : Int) ||| BitVec.ofInt 64 (y : Int)).toNat : Int) = _
  rw [BitVec.toNat_or, ofInt64 x (by omega), ofInt64 y (by omega)]
  exact wrap_small _ (by omega) (by omega)
theorem or_walk (y b k : Nat) (hk : k ≤ 8) (hy : y < 128 ^ k) :
    bits .or .i64 (y : Int) (wrap64 ((b : Int) % 128 * 2 ^ (7 * k))) = ((y + b % 128 * 128 ^ k : Nat) : Int) := by
  have h2 : 128 ^ k ≤ 128 ^ 8 := Nat.pow_le_pow_right (by omega) hk
  have h4 : 128 ^ 8 = 72057594037927936 := by decide
  have h3 : b % 128 * 128 ^ k ≤ 127 * 72057594037927936 := Nat.mul_le_mul (by omega) (by omega)
  have e : ((b : Int) % 128 * 2 ^ (7 * k)) = ((b % 128 * 128 ^ k : Nat) : Int) := by
    have e128 : (128 : Nat) ^ k = 2 ^ (7 * k) := by rw [Nat.pow_mul]
    rw [e128]
    simp
  rw [e, IntWalk.wrap64_in _ (by omega), or64 _ _ (by omega) (by omega), or_add _ _ _ hy]

theorem ret_ints {a b c a' b' c' : Int} (h1 : a = a') (h2 : b = b') (h3 : c = c') :
    Ending.returned (.tuple #[.int .i64 a, .int .i64 b, .int .i64 c]) = .returned (.tuple #[.int .i64 a', .int .i64 b', .int .i64 c']) := by rw [h1, h2, h3]

theorem intF_none (l : List UInt8) (p : Nat) (hp : p ≤ l.length) (h : getI l p = none) : intF l p = (0, 0, 10) := by
  unfold intF
  rw [if_neg (by omega), Int.toNat_natCast, h]
theorem intF_some (l : List UInt8) (p : Nat) (hp : p ≤ l.length) (n : Int) (e : Nat) (h : getI l p = some (n, e)) : intF l p = (n, (e : Int), 0) := by
  unfold intF
  rw [if_neg (by omega), Int.toNat_natCast, h]

/-- The round's end: what the reader finds where it stops. -/
theorem get_end (l : List UInt8) (p k y : Nat) (HR : read 9 true (l.drop p) = glue y k none) : getI l p = none := by
  unfold getI; rw [HR]; rfl
theorem drop_cons (s : ByteArray) (i : Nat) (h : i < s.size) : s.data.toList.drop i = s[i] :: s.data.toList.drop (i + 1) := by
  rw [List.drop_eq_getElem_cons (by simpa using h)]; rfl

set_option maxRecDepth 100000 in
set_option maxHeartbeats 1000000 in
theorem int_calls (s : ByteArray) (p : Nat) (w : World) (hs : s.size ≤ 9223372036854775807) (ha1 : p ≤ s.size) :
    Calls Tryd.prog 85 #[.string s, .int .i64 (p : Int)] w fun e w' => e = .returned (.tuple #[.int .i64 (intF s.data.toList p).1, .int .i64 (intF s.data.toList p).2.1, .int .i64 (intF s.data.toList p).2.2]) ∧ w = w' := by
  go_enter Tryd.func85, Tryd.ntmps85
  go_wp2
  all_goals
    go_loop [7, 25] (fun z i => ∃ k y : Nat, k ≤ 9 ∧ p + k ≤ s.size ∧ i = .int .i64 k ∧ z = .int .i64 y ∧ Hid (y < 128 ^ k) ∧ Hid (read 9 true (s.data.toList.drop p) = glue y k (read (9 - k) (decide (k = 0)) (s.data.toList.drop (p + k))))) (fun _ i => 9 - (intOf i).toNat)
    case atStart => exact ⟨0, 0, by omega, by omega, rfl, rfl, Lib.hid (by simp), Lib.hid (by simp; cases read 9 true (s.data.toList.drop p) <;> simp [glue])⟩
    case round =>
      obtain ⟨k, y, hk9, hks, rfl, rfl, Hy, HR⟩ := hrel
      by_cases hlt : (k : Int) < 9 ∧ p + k < s.size
      · obtain ⟨hl1, hl2⟩ := hlt
        have HO := Lib.hid (or_walk y s[p + k].toNat k (by omega) Hy.out)
        have HD := Lib.hid (drop_cons s (p + k) hl2)
        have HB := Lib.hid s[p + k].toNat_lt
        have HY2 : Hid (y + s[p + k].toNat % 128 * 128 ^ k < 128 ^ (k + 1)) := Lib.hid (by
          have := Hy.out
          have h1 : s[p + k].toNat % 128 * 128 ^ k ≤ 127 * 128 ^ k := Nat.mul_le_mul_right _ (by omega)
          rw [Nat.pow_succ]; omega)
        by_cases hb : (128 : Int) ≤ (s[p + k].toNat : Int)
        · have HN : Hid (read 9 true (s.data.toList.drop p) = glue (y + s[p + k].toNat % 128 * 128 ^ k) (k + 1) (read (9 - (k + 1)) (decide (k + 1 = 0)) (s.data.toList.drop (p + (k + 1))))) := Lib.hid (by
            rw [HR.out, HD.out, show 9 - k = (9 - (k + 1)) + 1 by omega, glue_step _ _ _ _ _ _ (by omega)]; rfl)
          go_wp2
          go_round
          case rel => exact ⟨k + 1, y + s[p + k].toNat % 128 * 128 ^ k, by omega, by omega, by go_num, by rw [HO.out], HY2, HN⟩
          case measure => simp [intOf]; omega
        · have hb' : (s[p + k].toNat : Int) < 128 := by omega
          clear hb
          obtain ⟨Z, hZ⟩ : ∃ Z, y + s[p + k].toNat % 128 * 128 ^ k = Z := ⟨_, rfl⟩
          have HZ9 : Z < 9223372036854775808 := by
            have := HY2.out
            have h2 : 128 ^ (k + 1) ≤ 128 ^ 9 := Nat.pow_le_pow_right (by omega) (by omega)
            have h4 : 128 ^ 9 = 9223372036854775808 := by decide
            omega
          have HO2 := HO.out
          rw [hZ] at HO2
          have HO3 := Lib.hid HO2
          have HZ := Lib.hid hZ
          have HZ8 := Lib.hid HZ9
          clear HO HO2 hZ HZ9
          obtain ⟨n, hn⟩ : ∃ n, unfold' Z = n := ⟨_, rfl⟩
          have Hn := Lib.hid hn
          clear hn
          by_cases hsup : s[p + k].toNat = 0 ∧ 0 < k
          · obtain ⟨hs0, hk0⟩ := hsup
            have hz0 : ((s[p + k].toNat : Int) == 0) = true := by rw [hs0]; rfl
            have HF := Lib.hid (intF_none s.data.toList p (by simpa using ha1) (get_end s.data.toList p k y (by
              rw [HR.out, HD.out, show 9 - k = (9 - (k + 1)) + 1 by omega, read, if_pos (by omega), if_pos ⟨hs0, by simp; omega⟩])))
            clear hs0
            go_wp2_with fail
            rw [HO3.out]
            refine (unfold_calls _ _ (by omega) (by have := HZ8.out; omega)).mono ?_
            rintro e w' ⟨rfl, rfl⟩
            go_wp2_with fail
            go_ret3
            exact ⟨by rw [HF.out]; rfl, rfl⟩
          · have HRd : Hid (read 9 true (s.data.toList.drop p) = some (Z, k + 1)) := Lib.hid (by
              rw [HR.out, HD.out, show 9 - k = (9 - (k + 1)) + 1 by omega, read, if_pos (show s[p + k].toNat < 128 by omega), if_neg (by
                rintro ⟨g1, g2⟩
                exact hsup ⟨g1, Nat.pos_of_ne_zero (of_decide_eq_false g2)⟩)]
              simp only [glue]
              rw [← HZ.out, Nat.mod_eq_of_lt (show s[p + k].toNat < 128 by omega), Nat.mul_comm])
            have Hsl : p ≤ s.data.toList.length := by simpa using ha1
            have HT : (-4611686018427387903 ≤ n ∧ n ≤ 4611686018427387903) → Hid (intF s.data.toList p = (n, ((p + (k + 1) : Nat) : Int), 0)) := fun hf => Lib.hid (intF_some _ _ Hsl _ _ (by
              unfold getI; rw [HRd.out]; simp only [Hn.out]; rw [if_pos (show Fits n from hf)]))
            have HF : ¬ (-4611686018427387903 ≤ n ∧ n ≤ 4611686018427387903) → Hid (intF s.data.toList p = (0, 0, 10)) := fun hf => Lib.hid (intF_none _ _ Hsl (by
              unfold getI; rw [HRd.out]; simp only [Hn.out]; rw [if_neg (show ¬ Fits n from hf)]))
            have hzc : (((s[p + k].toNat : Int) == 0) = true ∧ (k : Int) ≤ 0) ∨ ((s[p + k].toNat : Int) == 0) = false := by
              by_cases hz : s[p + k].toNat = 0
              · left; exact ⟨by rw [hz]; rfl, by omega⟩
              · right; simp; omega
            clear hsup
            rcases hzc with ⟨hz0, hk0⟩ | hz0
            all_goals
              by_cases hf : -4611686018427387903 ≤ n ∧ n ≤ 4611686018427387903
              · have HT1 := HT hf
                obtain ⟨hf1, hf2⟩ := hf
                clear HT HF
                go_wp2_with fail
                rw [HO3.out]
                refine (unfold_calls _ _ (by omega) (by have := HZ8.out; omega)).mono ?_
                rw [Int.toNat_natCast, Hn.out]
                rintro e w' ⟨rfl, rfl⟩
                go_wp2_with fail
                refine (fits_yes n _ hf1 hf2).mono ?_
                rintro e w' ⟨rfl, rfl⟩
                go_wp2_with fail
                go_ret3
                exact ⟨by rw [HT1.out]; exact ret_ints rfl (by dsimp only; omega) rfl, rfl⟩
              · have HF1 := HF hf
                have hf0 := hf
                clear HT HF
                by_cases hf1 : n < -4611686018427387903
                · have hf2 := hf1
                  clear hf1 hf hf0
                  go_wp2_with fail
                  rw [HO3.out]
                  refine (unfold_calls _ _ (by omega) (by have := HZ8.out; omega)).mono ?_
                  rw [Int.toNat_natCast, Hn.out]
                  rintro e w' ⟨rfl, rfl⟩
                  go_wp2_with fail
                  refine (fits_low n _ hf2).mono ?_
                  rintro e w' ⟨rfl, rfl⟩
                  go_wp2_with fail
                  go_ret3
                  exact ⟨by rw [HF1.out]; rfl, rfl⟩
                · have hf2 : 4611686018427387903 < n := by omega
                  clear hf1 hf hf0
                  go_wp2_with fail
                  rw [HO3.out]
                  refine (unfold_calls _ _ (by omega) (by have := HZ8.out; omega)).mono ?_
                  rw [Int.toNat_natCast, Hn.out]
                  rintro e w' ⟨rfl, rfl⟩
                  go_wp2_with fail
                  refine (fits_high n _ hf2).mono ?_
                  rintro e w' ⟨rfl, rfl⟩
                  go_wp2_with fail
                  go_ret3
                  exact ⟨by rw [HF1.out]; rfl, rfl⟩
      · go_wp2
        have HF := intF_none s.data.toList p (by simpa using ha1) (get_end s.data.toList p k y (by
          rw [HR.out]
          by_cases h9 : 9 ≤ k
          · rw [show 9 - k = 0 by omega]; rfl
          · rw [List.drop_of_length_le (by simp; omega), show 9 - k = (9 - (k + 1)) + 1 by omega]; rfl))
        go_ret3
        exact ⟨by rw [HF]; rfl, rfl⟩
end Go.Proofs.YtnbeebndcgoalaaDoor
