/- Contracts of the small functions of package wire and of the laws: fits, fold, unfold, shift4, pick, Clone. Each for every argument within the stated bounds; shift4 where the table reads as the program lays it. -/
import Derived.Test.YthhjdcpodaledaaDoorProg
import Derived.Test.YthhjdcpodaledaaDoorPlain
import Derived.Test.YthhjdcpodaledaaDoorCrc
import Derived.WalkKit
import Derived.WalkSpells
import Derived.WalkLawsBesides
import Derived.Lib.Hide
import Derived.IntWalk
namespace Go.Proofs.YthhjdcpodaledaaDoor
open Go.RowKit

theorem fits_yes (n : Int) (w : World) (h1 : -4611686018427387903 ≤ n) (h2 : n ≤ 4611686018427387903) :
    Calls Tryd.prog 23 #[.int .i64 n] w fun e w' => e = .returned (.bool true) ∧ w = w' := by
  go_enter Tryd.func23, Tryd.ntmps23
  go_wp2
  go_ret
  exact ⟨rfl, rfl⟩
theorem fits_low (n : Int) (w : World) (h1 : n < -4611686018427387903) :
    Calls Tryd.prog 23 #[.int .i64 n] w fun e w' => e = .returned (.bool false) ∧ w = w' := by
  go_enter Tryd.func23, Tryd.ntmps23
  go_wp2
  go_ret
  exact ⟨rfl, rfl⟩
theorem fits_high (n : Int) (w : World) (h1 : 4611686018427387903 < n) :
    Calls Tryd.prog 23 #[.int .i64 n] w fun e w' => e = .returned (.bool false) ∧ w = w' := by
  have hd : decide (n ≤ 4611686018427387903) = false := by simpa using h1
  go_enter Tryd.func23, Tryd.ntmps23
  go_wp2
  go_ret
  exact ⟨rfl, rfl⟩

theorem fold_calls (n : Int) (w : World) (h1 : -4611686018427387903 ≤ n) (h2 : n ≤ 4611686018427387903) :
    Calls Tryd.prog 25 #[.int .i64 n] w fun e w' => e = .returned (.int .i64 ((fold n : Nat) : Int)) ∧ w = w' := by
  by_cases h : n < 0
  · have hf : ((fold n : Nat) : Int) = -2 * n - 1 := by unfold fold; rw [if_pos h]; omega
    rw [hf]; clear hf
    go_enter Tryd.func25, Tryd.ntmps25
    go_wp2
    go_ret
    exact ⟨rfl, rfl⟩
  · have hf : ((fold n : Nat) : Int) = 2 * n := by unfold fold; rw [if_neg h]; omega
    rw [hf]; clear hf
    go_enter Tryd.func25, Tryd.ntmps25
    go_wp2
    go_ret
    exact ⟨rfl, rfl⟩

theorem unfold_calls (z : Int) (w : World) (h1 : 0 ≤ z) (h2 : z ≤ 9223372036854775807) :
    Calls Tryd.prog 27 #[.int .i64 z] w fun e w' => e = .returned (.int .i64 (unfold' z.toNat)) ∧ w = w' := by
  by_cases h : z % 2 = 1
  · have hf : unfold' z.toNat = -(z / 2) - 1 := by unfold unfold'; rw [if_pos (by omega)]; omega
    have hb : (z % 2 == 1) = true := by simpa using h
    rw [hf]; clear hf h
    go_enter Tryd.func27, Tryd.ntmps27
    go_wp2
    go_ret
    exact ⟨rfl, rfl⟩
  · have hf : unfold' z.toNat = z / 2 := by unfold unfold'; rw [if_neg (by omega)]; omega
    have hb : (z % 2 == 1) = false := by simpa using h
    rw [hf]; clear hf h
    go_enter Tryd.func27, Tryd.ntmps27
    go_wp2
    go_ret
    exact ⟨rfl, rfl⟩

/-- pick, as a number. -/
def pickF (c n : Int) : Int := if c < 0 then (-(c + 1)) % n else c % n

/-- The table of shifts reads as the program lays it. -/
def Table (w : World) : Prop := ∀ i : Nat, i < 16 → w.cell? ⟨0, i, none⟩ = some (.int .u32 ((tab.getD i 0 : Nat) : Int))

theorem shift4_calls (r : Nat) (w : World) (hT : Table w) (hr : r < 4294967296) :
    Calls Tryd.prog 29 #[.int .u32 (r : Int)] w fun e w' => e = .returned (.int .u32 ((sh4 r : Nat) : Int)) ∧ w = w' := by
  have hc := hT (r % 16) (by omega)
  have hx : bits .xor .u32 ((r : Int) / 16) ((tab.getD (r % 16) 0 : Nat) : Int) = ((sh4 r : Nat) : Int) :=
    u32_xor_nat (r / 16) _ (by omega) (tab_lt _)
  have HX := Lib.hid hx
  clear hT hx
  go_enter Tryd.func29, Tryd.ntmps29
  go_wp2
  go_ret
  refine ⟨?_, rfl⟩
  rw [← HX.out]
  simp

theorem pick_calls (c n : Int) (w : World) (h0 : -9223372036854775808 ≤ c) (h1 : c ≤ 9223372036854775807) (h2 : 1 ≤ n) (h3 : n ≤ 9223372036854775807) :
    Calls Tryd.prog 14 #[.int .i64 c, .int .i64 n] w fun e w' => e = .returned (.int .i64 (pickF c n)) ∧ w = w' := by
  by_cases h : c < 0
  · have hf : pickF c n = (-(c + 1)) % n := by unfold pickF; rw [if_pos h]
    rw [hf]; clear hf
    go_enter Tryd.func14, Tryd.ntmps14
    go_wp2
    go_ret
    refine ⟨?_, rfl⟩
    have hp : (-(c + 1)) % n = -((c + 1).tmod n) := by rw [← Int.neg_tmod, Int.tmod_eq_emod_of_nonneg (by omega)]
    rw [hp]; rfl
  · have hf : pickF c n = c % n := by unfold pickF; rw [if_neg h]
    rw [hf]; clear hf
    go_enter Tryd.func14, Tryd.ntmps14
    go_wp2
    go_ret
    exact ⟨rfl, rfl⟩

theorem ret_int {k : IntKind} {a b : Int} (h : a = b) : Ending.returned (.int k a) = .returned (.int k b) := by rw [h]

theorem take_snoc (s : ByteArray) (k : Nat) (h : k < s.size) : s.data.toList.take (k + 1) = s.data.toList.take k ++ [s[k]] := by
  rw [List.take_succ_eq_append_getElem (by simpa using h)]; rfl

set_option maxHeartbeats 400000 in
theorem sum_calls (s : ByteArray) (w : World) (hT : Table w) (hs : s.size ≤ 9223372036854775807) :
    Calls Tryd.prog 21 #[.string s] w fun e w' => e = .returned (.int .i64 ((sumF s.data.toList : Nat) : Int)) ∧ w = w' := by
  go_enter Tryd.func21, Tryd.ntmps21
  go_wp2
  go_loop [3, 7] (fun r i => ∃ k : Nat, k ≤ s.size ∧ i = .int .i64 k ∧ r = .int .u32 ((regF 4294967295 (s.data.toList.take k) : Nat) : Int)) (fun _ i => s.size - (intOf i).toNat)
  case atStart => exact ⟨0, Nat.zero_le _, rfl, rfl⟩
  case round =>
    obtain ⟨k, hk, rfl, rfl⟩ := hrel
    have HR := Lib.hid (regF_lt 4294967295 (s.data.toList.take k) (by omega))
    by_cases hlt : k < s.size
    · have hx := Lib.hid (show bits .xor .u32 ((regF 4294967295 (s.data.toList.take k) : Nat) : Int) ((s[k].toNat : Int) % 4294967296) = ((regF 4294967295 (s.data.toList.take k) ^^^ s[k].toNat : Nat) : Int) from by
        have hb := s[k].toNat_lt
        rw [show ((s[k].toNat : Int) % 4294967296) = (s[k].toNat : Int) from by omega]
        exact u32_xor_nat (regF 4294967295 (s.data.toList.take k)) (s[k].toNat) HR.out (by omega))
      have hx1 := Lib.hid (xor_byte_lt _ s[k] HR.out)
      have hx2 := Lib.hid (sh4_lt _ hx1.out)
      have hy := Lib.hid (show regF 4294967295 (s.data.toList.take (k + 1)) = sh4 (sh4 (regF 4294967295 (s.data.toList.take k) ^^^ s[k].toNat)) by rw [take_snoc s k hlt, regF_snoc])
      go_wp2_with fail
      rw [hx.out]
      refine (shift4_calls _ _ hT hx1.out).mono ?_
      rintro e w' ⟨rfl, rfl⟩
      go_wp2_with fail
      refine (shift4_calls _ _ hT hx2.out).mono ?_
      rintro e w' ⟨rfl, rfl⟩
      go_wp2_with fail
      go_round
      case rel => exact ⟨k + 1, by omega, by go_num, by rw [hy.out]⟩
      case measure => simp [intOf]; omega
    · go_wp2
      go_ret
      have hkk : k = s.size := by omega
      have hz := sumF_lt s.data.toList
      have hq : bits .xor .u32 IntKind.u32.max ((regF 4294967295 (s.data.toList.take k) : Nat) : Int) = ((sumF s.data.toList : Nat) : Int) := by
        have h1 := u32_xor_nat 4294967295 (regF 4294967295 (s.data.toList.take k)) (by omega) HR.out
        rw [hkk, List.take_of_length_le (by simp)] at h1 ⊢
        exact h1
      refine ⟨?_, rfl⟩
      rw [hq]
      exact ret_int (IntWalk.wrap64_in _ (by omega))

end Go.Proofs.YthhjdcpodaledaaDoor
