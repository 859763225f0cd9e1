/- Contracts of the reference implementation's Sum, Int, String and PutString: they return what the plain functions say. Conditions: lengths that fit memory. -/
import Derived.Test.YthhjdcpodaledaaDoorRef
namespace Go.Proofs.YthhjdcpodaledaaDoor
open Go.RowKit

theorem stepN_last (n r : Nat) : stepN (n + 1) r = step1 (stepN n r) := stepN_add n 1 r
theorem refF_snoc (r : Nat) (l : List UInt8) (b : UInt8) : refF r (l ++ [b]) = stepN 8 (refF r l ^^^ b.toNat) := by
  unfold refF; rw [List.foldl_append]; rfl

set_option maxRecDepth 100000 in
set_option maxHeartbeats 2000000 in
theorem refSum_calls (s : ByteArray) (w : World) (hs : s.size ≤ 9223372036854775807) :
    Calls Tryd.prog 22 #[.string s] w fun e w' => e = .returned (.int .i64 ((sumF s.data.toList : Nat) : Int)) ∧ w = w' := by
  go_enter Tryd.func22, Tryd.ntmps22
  go_wp2
  go_loop [3, 4] (fun r i => ∃ k R : Nat, k ≤ s.size ∧ i = .int .i64 k ∧ r = .int .u32 (R : Int) ∧ Hid (refF 4294967295 (s.data.toList.take k) = R) ∧ Hid (R < 4294967296)) (fun _ i => s.size - (intOf i).toNat)
  case atStart => exact ⟨0, 4294967295, Nat.zero_le _, rfl, rfl, Lib.hid rfl, Lib.hid (by decide)⟩
  case round =>
    obtain ⟨k, R, hk, rfl, rfl, HR, Hlt⟩ := hrel
    by_cases hlt : k < s.size
    · have hx := Lib.hid (show bits .xor .u32 (R : Int) ((s[k].toNat : Int) % 4294967296) = ((R ^^^ s[k].toNat : Nat) : Int) from by
        have hb := s[k].toNat_lt
        rw [show ((s[k].toNat : Int) % 4294967296) = (s[k].toNat : Int) from by omega]
        exact u32_xor_nat R s[k].toNat Hlt.out (by omega))
      have Hn := Lib.hid (show refF 4294967295 (s.data.toList.take (k + 1)) = stepN 8 (R ^^^ s[k].toNat) by rw [take_snoc s k hlt, refF_snoc, HR.out])
      have Hr0 := Lib.hid (xor_byte_lt R s[k] Hlt.out)
      go_wp2_with fail
      rw [hx.out]
      generalize R ^^^ s[k].toNat = Z at Hn Hr0 ⊢
      go_loop [3, 5] (fun r j => ∃ m Q : Nat, m ≤ 8 ∧ j = .int .i64 m ∧ r = .int .u32 (Q : Int) ∧ Hid (stepN m Z = Q) ∧ Hid (Q < 4294967296)) (fun _ j => 8 - (intOf j).toNat)
      case atStart => exact ⟨0, Z, by omega, rfl, rfl, Lib.hid rfl, Hr0⟩
      case round =>
        obtain ⟨m, Q, hm, rfl, rfl, HQ, HQl⟩ := hrel
        by_cases hm8 : m < 8
        · have hq := HQl.out
          have Hs := Lib.hid (show stepN (m + 1) Z = step1 Q by rw [stepN_last, HQ.out])
          have Hsl := Lib.hid (step1_lt Q hq)
          by_cases hodd : Q % 2 = 1
          · have ho : (((Q : Int) % 2) == 1) = true := by rw [beq_iff_eq]; omega
            have HX := Lib.hid (show bits .xor .u32 ((Q : Int) / 2) 2197175160 = ((step1 Q : Nat) : Int) from by
              have h := u32_xor_nat (Q / 2) 2197175160 (by omega) (by omega)
              have e : step1 Q = Q / 2 ^^^ 2197175160 := by unfold step1; rw [if_pos hodd]
              rw [e]; simpa using h)
            clear hodd
            go_wp2_with fail
            rw [HX.out]
            go_round
            case rel => exact ⟨m + 1, step1 Q, by omega, by go_num, rfl, Hs, Hsl⟩
            case measure => simp [intOf]; omega
          · have ho : (((Q : Int) % 2) == 1) = false := by rw [beq_eq_false_iff_ne]; omega
            have HX := Lib.hid (show (Q : Int) / 2 = ((step1 Q : Nat) : Int) from by
              have e : step1 Q = Q / 2 := by unfold step1; rw [if_neg hodd, Nat.xor_zero]
              rw [e]; simp)
            clear hodd
            go_wp2_with fail
            rw [HX.out]
            go_round
            case rel => exact ⟨m + 1, step1 Q, by omega, by go_num, rfl, Hs, Hsl⟩
            case measure => simp [intOf]; omega
        · obtain rfl : m = 8 := by omega
          clear hm8
          go_wp2_with fail
          go_round
          case rel => exact ⟨k + 1, Q, by omega, by go_num, rfl, Lib.hid (by rw [Hn.out, HQ.out]), HQl⟩
          case measure => simp [intOf]; omega
    · go_wp2
      go_ret
      have hkk : k = s.size := by omega
      have hz := sumF_lt s.data.toList
      have hq : bits .xor .u32 IntKind.u32.max (R : Int) = ((sumF s.data.toList : Nat) : Int) := by
        have h1 := u32_xor_nat 4294967295 R (by omega) Hlt.out
        have h2 := HR.out
        rw [hkk, List.take_of_length_le (by simp), refF_regF] at h2
        unfold sumF
        rw [h2]
        exact h1
      refine ⟨?_, rfl⟩
      rw [hq]
      exact ret_int (IntWalk.wrap64_in _ (by omega))

end Go.Proofs.YthhjdcpodaledaaDoor
