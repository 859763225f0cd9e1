/- The contract of math/bits.Div64: the quotient and the remainder of a number of two words by a word that is greater than the upper one. -/
import Derived.Test.YtediphiebamffaaShb
import Derived.Test.YtediphiebamffaaInts
import Derived.Test.YtediphiebamffaaDm
import Derived.WalkKit
import Derived.Below
import Derived.Lib.Hide
import Derived.IntWalk
import Derived.Laws.Bits64b
import Derived.Deep.Cut
import Derived.Deep.CutBlock
import Derived.Deep.CutRange
import Derived.Deep.DeepCutAuto
import Derived.Deep.QuietTactic
import Derived.BigQuiet
import Derived.Outline
namespace Go.Proofs.Ytediphiebamffaa
open Go.RowKit

theorem len_lt : ∀ (f x : Nat), x < 2 ^ f → x < 2 ^ Lib.bitLenAux f x
  | 0, x, h => by
    have : x = 0 := by simpa using h
    subst this; simp [Lib.bitLenAux]
  | f + 1, x, h => by
    unfold Lib.bitLenAux
    split
    · rename_i h0; subst h0; decide
    · have := len_lt f (x / 2) (by rw [Nat.pow_succ] at h; omega)
      rw [Nat.add_comm 1, Nat.pow_succ]; omega
theorem len_ge : ∀ (f x : Nat), 1 ≤ x → x < 2 ^ f → 2 ^ Lib.bitLenAux f x ≤ 2 * x
  | 0, x, h1, h => by
    have : x = 0 := by simpa using h
    omega
  | f + 1, x, h1, h => by
    unfold Lib.bitLenAux
    split
    · omega
    · by_cases hx : x / 2 = 0
      · rw [hx, show Lib.bitLenAux f 0 = 0 from by cases f <;> simp [Lib.bitLenAux]]; show 2 ≤ 2 * x; omega
      · have := len_ge f (x / 2) (by omega) (by rw [Nat.pow_succ] at h; omega)
        rw [Nat.add_comm 1, Nat.pow_succ]; omega
/-- The word shifted to the left as far as it goes. -/
theorem norm_word (y : Nat) (h1 : 1 ≤ y) (h : y < 18446744073709551616) : ∃ s : Nat, s ≤ 63 ∧ (64 - (Lib.bitLen y : Int)) = (s : Int) ∧ 9223372036854775808 ≤ y * 2 ^ s ∧ y * 2 ^ s < 18446744073709551616 := by
  have hl := len_lt 64 y h
  have hg := len_ge 64 y h1 h
  have hle := Lib.bitLen_le y 64 (by omega) h
  have hpos : 1 ≤ Lib.bitLen y := by
    unfold Lib.bitLen
    rcases Nat.eq_zero_or_pos (Lib.bitLenAux 64 y) with h0 | h0
    · rw [h0] at hl; have : y < 1 := hl; omega
    · exact h0
  unfold Lib.bitLen at *
  generalize Lib.bitLenAux 64 y = b at *
  refine ⟨64 - b, by omega, by omega, ?_, ?_⟩
  · have e : 2 ^ b * 2 ^ (64 - b) = 18446744073709551616 := by rw [← Nat.pow_add, show b + (64 - b) = 64 by omega]
    have := Nat.mul_le_mul_right (2 ^ (64 - b)) hg
    rw [e, Nat.mul_assoc] at this
    omega
  · have e : 2 ^ b * 2 ^ (64 - b) = 18446744073709551616 := by rw [← Nat.pow_add, show b + (64 - b) = 64 by omega]
    have := Nat.mul_lt_mul_of_pos_right hl (show 0 < 2 ^ (64 - b) from Nat.pow_pos (by decide))
    rw [e] at this
    exact this
theorem mask32 (a : Nat) (ha : a < 18446744073709551616) : bits .and .u64 (a : Int) 4294967295 = ((a % 4294967296 : Nat) : Int) := by
  have h := bits_and_u64_nat a 4294967295 ha (by omega)
  have e : a &&& 4294967295 = a % 4294967296 := Nat.and_two_pow_sub_one_eq_mod a 32
  rw [e] at h
  exact h
theorem wrapU (x : Int) (a : Nat) (h : x % 18446744073709551616 = (a : Int)) : IntKind.u64.wrap x = (a : Int) := by rw [IntKind.wrap_u64]; exact h
/-- What Div64 answers. -/
def divT (hi lo y : Nat) : Value := .tuple #[.int .u64 (((hi * 18446744073709551616 + lo) / y : Nat) : Int), .int .u64 (((hi * 18446744073709551616 + lo) % y : Nat) : Int)]

theorem div64_low (lo y : Nat) (w : World) (h1 : 1 ≤ y) (hy : y < 18446744073709551616) (hlo : lo < 18446744073709551616) :
    Calls Try.prog 31 #[.int .u64 0, .int .u64 (lo : Int), .int .u64 (y : Int)] w fun e w' => e = .returned (divT 0 lo y) ∧ Below w.heap.size w w' := by
  have k1 : (0 : Int) < (y : Int) := by omega
  have k2 : ((y : Int) == 0) = false := by simp; omega
  have k3 : (1 : Int) ≤ (y : Int) := by omega
  have e1 : IntKind.u64.wrap ((lo : Int) / (y : Int)) = (lo : Int) / (y : Int) := by
    have h0 : (0 : Int) ≤ (lo : Int) / (y : Int) := Int.ediv_nonneg (by omega) (by omega)
    have h9 : (lo : Int) / (y : Int) ≤ (lo : Int) := Int.ediv_le_self _ (by omega)
    rw [IntKind.wrap_u64]; omega
  have HA := Lib.hid (show divT 0 lo y = .tuple #[.int .u64 ((lo : Int) / (y : Int)), .int .u64 ((lo : Int) % (y : Int))] from by unfold divT; rw [Nat.zero_mul, Nat.zero_add]; rfl)
  go_enter Try.func31, Try.ntmps31
  go_wp2_with fail
  go_quiet (fail)
  go_wp2_with fail
  refine bodyPost_ret (results_tmp2 rfl _ _ _) rfl ?_
  exact ⟨by rw [HA.out]; rfl, below_drewN (Below.refl _ _) _⟩

theorem cast_shl (a s : Nat) : (a : Int) * 2 ^ s = ((a * 2 ^ s : Nat) : Int) := by rw [Int.natCast_mul, Int.natCast_pow]; rfl
theorem cast_shr (a s : Nat) : (a : Int) / 2 ^ s = ((a / 2 ^ s : Nat) : Int) := by rw [Int.natCast_ediv, Int.natCast_pow]; rfl
/-- The words that the division begins with, in the walk's own spelling. -/
structure Words (hi lo y s t Y h1 l1 u l : Nat) : Prop where
  bs : s ≤ 63
  bt : s + t = 64
  lz : (64 - (Lib.bitLen y : Int)) = (s : Int)
  e1 : IntKind.u64.wrap ((y : Int) * 2 ^ s) = (Y : Int)
  bY : 9223372036854775808 ≤ Y
  bY2 : Y < 18446744073709551616
  e4 : IntKind.u64.wrap ((hi : Int) * 2 ^ s) = (h1 : Int)
  bh : h1 < 18446744073709551616
  e6 : (lo : Int) / 2 ^ t = (l1 : Int)
  bl1 : l1 < 18446744073709551616
  e7 : bits .or .u64 (h1 : Int) (l1 : Int) = (u : Int)
  bu : u < Y
  e8 : IntKind.u64.wrap ((lo : Int) * 2 ^ s) = (l : Int)
  bl : l < 18446744073709551616
  ans : (u * 18446744073709551616 + l) / Y = (hi * 18446744073709551616 + lo) / y ∧ (u * 18446744073709551616 + l) % Y / 2 ^ s = (hi * 18446744073709551616 + lo) % y
theorem words (hi lo y : Nat) (hh : hi < y) (hy : y < 18446744073709551616) (hlo : lo < 18446744073709551616) : ∃ s t Y h1 l1 u l : Nat, Words hi lo y s t Y h1 l1 u l := by
  obtain ⟨s, hs, hz, hY1, hY2⟩ := norm_word y (by omega) hy
  obtain ⟨t, ht⟩ : ∃ t : Nat, s + t = 64 := ⟨64 - s, by omega⟩
  have kt : 64 - s = t := by omega
  have hhi := scale_hi hi lo s (by omega)
  have hlow := scale_lo hi lo s
  have hult := scale_lt hi lo y s hh hlo
  rw [hhi] at hult
  rw [kt] at hhi hult
  have hp : 0 < 2 ^ s := Nat.pow_pos (by decide)
  have hpt : 2 ^ s * 2 ^ t = 18446744073709551616 := by rw [← Nat.pow_add, ht]
  have hl1 : lo / 2 ^ t < 2 ^ s := by
    rw [Nat.div_lt_iff_lt_mul (Nat.pow_pos (by decide)), hpt]; exact hlo
  have hl2 : lo / 2 ^ t ≤ lo := Nat.div_le_self _ _
  have hb2 : hi * 2 ^ s < 18446744073709551616 := Nat.lt_of_le_of_lt (Nat.le_add_right _ _) (Nat.lt_trans hult hY2)
  have hl3 : lo / 2 ^ t < 18446744073709551616 := Nat.lt_of_le_of_lt hl2 hlo
  have hor := or_disj hi (lo / 2 ^ t) s hl1
  have U := unscale (hi * 18446744073709551616 + lo) y s
  have HD := Nat.div_add_mod ((hi * 18446744073709551616 + lo) * 2 ^ s) 18446744073709551616
  rw [hhi, hlow, Nat.mul_comm 18446744073709551616] at HD
  rw [← HD] at U
  have hm : lo * 2 ^ s % 18446744073709551616 < 18446744073709551616 := Nat.mod_lt _ (by decide)
  refine ⟨s, t, y * 2 ^ s, hi * 2 ^ s, lo / 2 ^ t, hi * 2 ^ s + lo / 2 ^ t, lo * 2 ^ s % 18446744073709551616, hs, ht, hz, ?_, hY1, hY2, ?_, hb2, cast_shr _ _, hl3, ?_, hult, ?_, hm, U⟩
  · exact wrapU _ _ (by rw [cast_shl]; omega)
  · exact wrapU _ _ (by rw [cast_shl]; omega)
  · rw [bits_or_u64_nat _ _ hb2 hl3, hor]
  · exact wrapU _ _ (by rw [cast_shl]; omega)

/-- One digit: Q is the digit; what the guesses do. -/
structure Digit (u d y1 y0 Q : Nat) : Prop where
  lt : Q < 4294967296
  big : ∀ q r, Guess u d y1 y0 q r → (4294967296 * r + d < q * y0 ↔ Q < q)
  step : ∀ q r, Guess u d y1 y0 q r → Q < q → Guess u d y1 y0 (q - 1) (r + y1)
  right : ∀ q r, Guess u d y1 y0 q r → ¬ 4294967296 * r + d < q * y0 → q = Q
  done : ∀ q r, Guess u d y1 y0 q r → q ≤ 4294967296 → 4294967296 ≤ r → q = Q
theorem digit (u d y1 y0 Y Q : Nat) (hY : y1 * 4294967296 + y0 = Y) (hy : 1 ≤ Y) (hu : u < Y) (hd : d < 4294967296) (hy0 : y0 < 4294967296) (hQ : (u * 4294967296 + d) / Y = Q) : Digit u d y1 y0 Q := by
  subst hY hQ
  exact ⟨quot_lt u d _ hu hd, fun q r h => guess_big u d y1 y0 q r h hy, fun q r h => guess_step u d y1 y0 q r h, fun q r h => guess_right u d y1 y0 q r h hy, fun q r h => guess_done u d y1 y0 q r h hy hy0⟩
/-- The multiplication and the subtraction without the upper half. -/
theorem wrap_rest (u d Q Y R : Nat) (h : Y * Q + R = u * 4294967296 + d) (hR : R < 18446744073709551616) :
    IntKind.u64.wrap (IntKind.u64.wrap (IntKind.u64.wrap ((u : Int) * 4294967296) + (d : Int)) - IntKind.u64.wrap ((Q : Int) * (Y : Int))) = (R : Int) := by
  have h2 : (Q : Int) * (Y : Int) + (R : Int) = (u : Int) * 4294967296 + (d : Int) := by
    rw [← Int.natCast_mul, Nat.mul_comm]; omega
  generalize (Q : Int) * (Y : Int) = P at *
  simp only [IntKind.wrap_u64]
  omega
theorem div32 (a : Nat) : (a : Int) / 4294967296 = ((a / 4294967296 : Nat) : Int) := by omega
theorem split32 (a : Nat) (h : a < 18446744073709551616) : a / 4294967296 * 4294967296 + a % 4294967296 = a ∧ a % 4294967296 < 4294967296 ∧ a / 4294967296 < 4294967296 := by omega
theorem top32 (a : Nat) (h : 9223372036854775808 ≤ a) : 2147483648 ≤ a / 4294967296 := by omega
theorem digits_of (u l : Nat) : u * 18446744073709551616 + l / 4294967296 * 4294967296 + l % 4294967296 = u * 18446744073709551616 + l := by omega

set_option maxRecDepth 100000 in
set_option maxHeartbeats 2000000 in
theorem div64_high (hi lo y : Nat) (w : World) (h1 : 1 ≤ hi) (hh : hi < y) (hy : y < 18446744073709551616) (hlo : lo < 18446744073709551616) :
    Calls Try.prog 31 #[.int .u64 (hi : Int), .int .u64 (lo : Int), .int .u64 (y : Int)] w fun e w' => e = .returned (divT hi lo y) ∧ Below w.heap.size w w' := by
  obtain ⟨s, t, Y, h, l1, u, l, W⟩ := words hi lo y hh hy hlo
  have HA : divT hi lo y = .tuple #[.int .u64 (((u * 18446744073709551616 + l) / Y : Nat) : Int), .int .u64 (((u * 18446744073709551616 + l) % Y / 2 ^ s : Nat) : Int)] := by unfold divT; rw [W.ans.1, W.ans.2]
  have hT := two_digits u (l / 4294967296) (l % 4294967296) Y W.bu
  have b1 := W.bs; have b2 := W.bt; have b3 := W.bY; have b4 := W.bY2; have b5 := W.bh; have b6 := W.bl1; have b7 := W.bu; have b8 := W.bl
  have E1 := W.e1; have E4 := W.e4; have E6 := W.e6; have E7 := W.e7; have E8 := W.e8
  have E2 := div32 Y
  have E3 := mask32 Y b4
  have E5 : (64 : Int) - (s : Int) = (t : Int) := by omega
  have E9 := div32 l
  have E10 := mask32 l b8
  have c1 := (split32 Y b4).1; have c3 := (split32 Y b4).2.1; have c7 := (split32 Y b4).2.2
  have c2 := (split32 l b8).1; have c4 := (split32 l b8).2.1; have c5 := (split32 l b8).2.2
  have c6 := top32 Y b3
  rw [digits_of] at hT
  rw [← hT.1, ← hT.2] at HA
  clear hT
  generalize Y / 4294967296 = y1 at *
  generalize Y % 4294967296 = y0 at *
  generalize l / 4294967296 = d1 at *
  generalize l % 4294967296 = d0 at *
  have hG := guess_start u d1 y1 y0 c6 (by omega) c3 c5
  have E11 : (u : Int) / (y1 : Int) = ((u / y1 : Nat) : Int) := (Int.natCast_ediv _ _).symm
  have hdm := Nat.div_add_mod u y1
  have E12 : (u : Int) - ((u / y1 : Nat) : Int) * (y1 : Int) = ((u % y1 : Nat) : Int) := by
    rw [← Int.natCast_mul, Nat.mul_comm]; omega
  have c8 : (0 : Int) ≤ ((u / y1 : Nat) : Int) * (y1 : Int) := by rw [← Int.natCast_mul]; omega
  have c9 : ((u / y1 : Nat) : Int) * (y1 : Int) ≤ (u : Int) := by rw [← Int.natCast_mul, Nat.mul_comm]; omega
  have c10 : u % y1 < y1 := Nat.mod_lt _ (by omega)
  generalize u / y1 = q at *
  generalize u % y1 = r at *
  have HG0 := Lib.hid hG.1
  have c11 := hG.2
  clear hG hdm
  have hR1 := Nat.div_add_mod (u * 4294967296 + d1) Y
  have hR2 : (u * 4294967296 + d1) % Y < Y := Nat.mod_lt _ (by omega)
  obtain ⟨Q, hQ⟩ : ∃ Q, (u * 4294967296 + d1) / Y = Q := ⟨_, rfl⟩
  have HD1 := Lib.hid (digit u d1 y1 y0 Y Q c1 (by omega) b7 c5 c3 hQ)
  obtain ⟨v, hv⟩ : ∃ v, (u * 4294967296 + d1) % Y = v := ⟨_, rfl⟩
  rw [hQ, hv] at HA
  rw [hQ, hv] at hR1
  rw [hv] at hR2
  clear hQ hv
  have E21 := wrap_rest u d1 Q Y v hR1 (by omega)
  have hG2 := guess_start v d0 y1 y0 c6 (by omega) c3 c4
  have E22 : (v : Int) / (y1 : Int) = ((v / y1 : Nat) : Int) := (Int.natCast_ediv _ _).symm
  have hdm2 := Nat.div_add_mod v y1
  have E23 : (v : Int) - ((v / y1 : Nat) : Int) * (y1 : Int) = ((v % y1 : Nat) : Int) := by
    rw [← Int.natCast_mul, Nat.mul_comm]; omega
  have f8 : (0 : Int) ≤ ((v / y1 : Nat) : Int) * (y1 : Int) := by rw [← Int.natCast_mul]; omega
  have f9 : ((v / y1 : Nat) : Int) * (y1 : Int) ≤ (v : Int) := by rw [← Int.natCast_mul, Nat.mul_comm]; omega
  have f10 : v % y1 < y1 := Nat.mod_lt _ (by omega)
  generalize v / y1 = q2 at *
  generalize v % y1 = r2 at *
  have HG2 := Lib.hid hG2.1
  have f11 := hG2.2
  clear hG2 hdm2
  have hR3 := Nat.div_add_mod (v * 4294967296 + d0) Y
  have hR4 : (v * 4294967296 + d0) % Y < Y := Nat.mod_lt _ (by omega)
  obtain ⟨Q0, hQ0⟩ : ∃ Q0, (v * 4294967296 + d0) / Y = Q0 := ⟨_, rfl⟩
  have HD0 := Lib.hid (digit v d0 y1 y0 Y Q0 c1 (by omega) hR2 c4 c3 hQ0)
  obtain ⟨x, hx⟩ : ∃ x, (v * 4294967296 + d0) % Y = x := ⟨_, rfl⟩
  rw [hQ0, hx] at HA
  rw [hQ0, hx] at hR3
  rw [hx] at hR4
  clear hQ0 hx
  have E24 := wrap_rest v d0 Q0 Y x hR3 (by omega)
  have E25 := cast_shr x s
  generalize x / 2 ^ s = z at *
  have HA2 := Lib.hid HA
  clear HA hR1 hR3
  have k0 : ((y : Int) == 0) = false := by simp; omega
  have k1 : ((hi : Int) == 0) = false := by simp; omega
  have k2 : (hi : Int) < (y : Int) := by omega
  have hlz := fun W' => lz64_calls (y : Int) W' (by omega) (by omega)
  rw [Int.toNat_natCast, W.lz] at hlz
  clear W h1 hh
  have HLZ := Lib.hid hlz
  clear hlz
  have kQ := HD1.out.lt
  have kQ0 := HD0.out.lt
  go_enter Try.func31, Try.ntmps31
  go_wp2_with fail
  refine (HLZ.out _).mono ?_
  rintro e w' ⟨rfl, rfl⟩
  have H21 := Lib.hid E21; have H22 := Lib.hid E22; have H23 := Lib.hid E23; have H24 := Lib.hid E24; have H25 := Lib.hid E25
  clear E21 E22 E23 E24 E25
  go_upto_block 0 with (fail)
  clear E1 E2 E3 E4 E5 E6 E7 E8 E9 E10 E11 E12
  go_cut [15] (fun qv wx => qv = .int .u64 (Q : Int) ∧ w = wx)
  case first =>
    clear HA2 H21 H22 H23 H24 H25 c1 c2 b1 b2 b5 b6 f8 f9 f10 f11 HG2 HD0 hR2 hR4
    go_wp2_with fail
    go_loop [15, 16] (fun qv rv => ∃ q r : Nat, qv = .int .u64 (q : Int) ∧ rv = .int .u64 (r : Int) ∧ q ≤ 4294967297 ∧ r < 4294967296 ∧ Hid (Guess u d1 y1 y0 q r)) (fun qv _ => (intOf qv).toNat)
    case atStart => exact ⟨_, _, rfl, rfl, c11, by omega, HG0⟩
    case round =>
      clear c11 c10 HG0 c8 c9
      obtain ⟨q, r, rfl, rfl, hq, hr, HG⟩ := hrel
      by_cases hlt : Q < q
      · have HS := Lib.hid (HD1.out.step q r HG.out hlt)
        have HT := Lib.hid ((HD1.out.big q r HG.out).2 hlt)
        have HE : Hid (4294967296 ≤ r + y1 → (q : Int) - 1 = (Q : Int)) := Lib.hid (fun h => by have := HD1.out.done _ _ HS.out (by omega) h; omega)
        clear HD1
        have k1 : (1 : Int) ≤ (q : Int) := by omega
        by_cases hr2 : 4294967296 ≤ r + y1
        · have HE2 := Lib.hid (HE.out hr2)
          have k2 : (4294967296 : Int) ≤ (r : Int) + (y1 : Int) := by omega
          clear HE HS hr2
          by_cases hb : 4294967296 ≤ q
          · have k3 : (4294967296 : Int) ≤ (q : Int) := by omega
            clear HT hb
            go_wp2_with fail
            go_meet
            exact ⟨by rw [HE2.out], rfl⟩
          · have k3 : (q : Int) < 4294967296 := by omega
            have k4 := HT.out
            have k5 : (0 : Int) ≤ (q : Int) * (y0 : Int) := by rw [← Int.natCast_mul]; omega
            have k6 : (q : Int) * (y0 : Int) ≤ 18446744073709551615 := by
              have := Nat.mul_le_mul (show q ≤ 4294967295 by omega) (show y0 ≤ 4294967295 by omega)
              rw [← Int.natCast_mul]; omega
            have k7 : 4294967296 * (r : Int) + (d1 : Int) < (q : Int) * (y0 : Int) := by rw [← Int.natCast_mul]; omega
            clear HT hb k4
            go_wp2_with fail
            go_meet
            exact ⟨by rw [HE2.out], rfl⟩
        · have k2 : decide ((4294967296 : Int) ≤ (r : Int) + (y1 : Int)) = false := by simp; omega
          clear HE
          by_cases hb : 4294967296 ≤ q
          · have k3 : (4294967296 : Int) ≤ (q : Int) := by omega
            clear HT hb
            go_wp2_with fail
            go_round
            case rel => exact ⟨q - 1, r + y1, by go_num, by go_num, by omega, by omega, HS⟩
            case measure => simp [intOf]; omega
          · have k3 : (q : Int) < 4294967296 := by omega
            have k4 := HT.out
            have k5 : (0 : Int) ≤ (q : Int) * (y0 : Int) := by rw [← Int.natCast_mul]; omega
            have k6 : (q : Int) * (y0 : Int) ≤ 18446744073709551615 := by
              have := Nat.mul_le_mul (show q ≤ 4294967295 by omega) (show y0 ≤ 4294967295 by omega)
              rw [← Int.natCast_mul]; omega
            have k7 : 4294967296 * (r : Int) + (d1 : Int) < (q : Int) * (y0 : Int) := by rw [← Int.natCast_mul]; omega
            clear HT hb k4
            go_wp2_with fail
            go_round
            case rel => exact ⟨q - 1, r + y1, by go_num, by go_num, by omega, by omega, HS⟩
            case measure => simp [intOf]; omega
      · have hnb : ¬ 4294967296 * r + d1 < q * y0 := fun h => hlt ((HD1.out.big q r HG.out).1 h)
        have HE := Lib.hid (HD1.out.right q r HG.out hnb)
        have hQlt := HD1.out.lt
        clear HD1
        have k3 : (q : Int) < 4294967296 := by omega
        have k5 : (0 : Int) ≤ (q : Int) * (y0 : Int) := by rw [← Int.natCast_mul]; omega
        have k6 : (q : Int) * (y0 : Int) ≤ 18446744073709551615 := by
          have := Nat.mul_le_mul (show q ≤ 4294967295 by omega) (show y0 ≤ 4294967295 by omega)
          rw [← Int.natCast_mul]; omega
        have k7 : (q : Int) * (y0 : Int) ≤ 4294967296 * (r : Int) + (d1 : Int) := by rw [← Int.natCast_mul]; omega
        have kd : decide (4294967296 * (r : Int) + (d1 : Int) < (q : Int) * (y0 : Int)) = false := by simpa using k7
        have ke : decide ((4294967296 : Int) ≤ (q : Int)) = false := by simpa using k3
        clear hnb hlt hQlt k7 k3
        go_wp2_with fail
        go_meet
        exact ⟨by rw [HE.out], rfl⟩
  case rest =>
    clear HG0 c11 c10 c8 c9 HD1
    obtain ⟨rfl, rfl⟩ := hcut
    have E21 := H21.out; have E22 := H22.out; have E23 := H23.out
    clear H21 H22 H23
    go_upto_block 2 with (fail)
    clear E21 E22 E23
    go_cut [18] (fun qv wx => qv = .int .u64 (Q0 : Int) ∧ w = wx)
    case first =>
      clear HA2 H24 H25 c1 c2 b1 b2 b5 b6 hR2 hR4 kQ
      go_wp2_with fail
      go_loop [18, 16] (fun qv rv => ∃ q r : Nat, qv = .int .u64 (q : Int) ∧ rv = .int .u64 (r : Int) ∧ q ≤ 4294967297 ∧ r < 4294967296 ∧ Hid (Guess v d0 y1 y0 q r)) (fun qv _ => (intOf qv).toNat)
      case atStart => exact ⟨_, _, rfl, rfl, f11, by omega, HG2⟩
      case round =>
        clear f11 f10 HG2 f8 f9
        obtain ⟨q, r, rfl, rfl, hq, hr, HG⟩ := hrel
        by_cases hlt : Q0 < q
        · have HS := Lib.hid (HD0.out.step q r HG.out hlt)
          have HT := Lib.hid ((HD0.out.big q r HG.out).2 hlt)
          have HE : Hid (4294967296 ≤ r + y1 → (q : Int) - 1 = (Q0 : Int)) := Lib.hid (fun h => by have := HD0.out.done _ _ HS.out (by omega) h; omega)
          clear HD0
          have k1 : (1 : Int) ≤ (q : Int) := by omega
          by_cases hr2 : 4294967296 ≤ r + y1
          · have HE2 := Lib.hid (HE.out hr2)
            have k2 : (4294967296 : Int) ≤ (r : Int) + (y1 : Int) := by omega
            clear HE HS hr2
            by_cases hb : 4294967296 ≤ q
            · have k3 : (4294967296 : Int) ≤ (q : Int) := by omega
              clear HT hb
              go_wp2_with fail
              go_meet
              exact ⟨by rw [HE2.out], rfl⟩
            · have k3 : (q : Int) < 4294967296 := by omega
              have k4 := HT.out
              have k5 : (0 : Int) ≤ (q : Int) * (y0 : Int) := by rw [← Int.natCast_mul]; omega
              have k6 : (q : Int) * (y0 : Int) ≤ 18446744073709551615 := by
                have := Nat.mul_le_mul (show q ≤ 4294967295 by omega) (show y0 ≤ 4294967295 by omega)
                rw [← Int.natCast_mul]; omega
              have k7 : 4294967296 * (r : Int) + (d0 : Int) < (q : Int) * (y0 : Int) := by rw [← Int.natCast_mul]; omega
              clear HT hb k4
              go_wp2_with fail
              go_meet
              exact ⟨by rw [HE2.out], rfl⟩
          · have k2 : decide ((4294967296 : Int) ≤ (r : Int) + (y1 : Int)) = false := by simp; omega
            clear HE
            by_cases hb : 4294967296 ≤ q
            · have k3 : (4294967296 : Int) ≤ (q : Int) := by omega
              clear HT hb
              go_wp2_with fail
              go_round
              case rel => exact ⟨q - 1, r + y1, by go_num, by go_num, by omega, by omega, HS⟩
              case measure => simp [intOf]; omega
            · have k3 : (q : Int) < 4294967296 := by omega
              have k4 := HT.out
              have k5 : (0 : Int) ≤ (q : Int) * (y0 : Int) := by rw [← Int.natCast_mul]; omega
              have k6 : (q : Int) * (y0 : Int) ≤ 18446744073709551615 := by
                have := Nat.mul_le_mul (show q ≤ 4294967295 by omega) (show y0 ≤ 4294967295 by omega)
                rw [← Int.natCast_mul]; omega
              have k7 : 4294967296 * (r : Int) + (d0 : Int) < (q : Int) * (y0 : Int) := by rw [← Int.natCast_mul]; omega
              clear HT hb k4
              go_wp2_with fail
              go_round
              case rel => exact ⟨q - 1, r + y1, by go_num, by go_num, by omega, by omega, HS⟩
              case measure => simp [intOf]; omega
        · have hnb : ¬ 4294967296 * r + d0 < q * y0 := fun h => hlt ((HD0.out.big q r HG.out).1 h)
          have HE := Lib.hid (HD0.out.right q r HG.out hnb)
          have hQlt := HD0.out.lt
          clear HD0
          have k3 : (q : Int) < 4294967296 := by omega
          have k5 : (0 : Int) ≤ (q : Int) * (y0 : Int) := by rw [← Int.natCast_mul]; omega
          have k6 : (q : Int) * (y0 : Int) ≤ 18446744073709551615 := by
            have := Nat.mul_le_mul (show q ≤ 4294967295 by omega) (show y0 ≤ 4294967295 by omega)
            rw [← Int.natCast_mul]; omega
          have k7 : (q : Int) * (y0 : Int) ≤ 4294967296 * (r : Int) + (d0 : Int) := by rw [← Int.natCast_mul]; omega
          have kd : decide (4294967296 * (r : Int) + (d0 : Int) < (q : Int) * (y0 : Int)) = false := by simpa using k7
          have ke : decide ((4294967296 : Int) ≤ (q : Int)) = false := by simpa using k3
          clear hnb hlt hQlt k7 k3
          go_wp2_with fail
          go_meet
          exact ⟨by rw [HE.out], rfl⟩

    case rest =>
      clear HG2 f11 f10 f8 f9 HD0
      obtain ⟨rfl, rfl⟩ := hcut
      have E24 := H24.out; have E25 := H25.out
      clear H24 H25
      go_wp2_with fail
      refine bodyPost_ret (results_tmp2 rfl _ _ _) rfl ?_
      exact ⟨by rw [HA2.out]; rfl, Below.refl _ _⟩
end Go.Proofs.Ytediphiebamffaa
