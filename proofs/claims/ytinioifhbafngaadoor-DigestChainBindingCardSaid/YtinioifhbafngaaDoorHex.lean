/- The contract of the laws' hex: the string in hexadecimal. Condition: at most a million bytes. -/
import Derived.Test.YtinioifhbafngaaDoorGen
namespace Go.Proofs.YtinioifhbafngaaDoor
open Go.RowKit

def digH (d : Nat) : UInt8 := if d < 10 then UInt8.ofNat (48 + d) else UInt8.ofNat (87 + d)
def hexL : List UInt8 → List UInt8
  | [] => []
  | b :: l => digH (b.toNat / 16) :: digH (b.toNat % 16) :: hexL l
theorem hexL_snoc (l : List UInt8) (b : UInt8) : hexL (l ++ [b]) = hexL l ++ [digH (b.toNat / 16), digH (b.toNat % 16)] := by
  induction l with
  | nil => rfl
  | cons x l ih => show _ :: _ :: hexL (l ++ [b]) = _; rw [ih]; rfl
theorem hexL_length (l : List UInt8) : (hexL l).length = 2 * l.length := by
  induction l with
  | nil => rfl
  | cons x l ih => simp [hexL, ih]; omega
theorem hex_digit (d : Nat) (h : d < 16) : ((⟨#[48, 49, 50, 51, 52, 53, 54, 55, 56, 57, 97, 98, 99, 100, 101, 102]⟩ : ByteArray).extract d (d + 1)) = ⟨#[digH d]⟩ := by
  have : ∀ d : Fin 16, ((⟨#[48, 49, 50, 51, 52, 53, 54, 55, 56, 57, 97, 98, 99, 100, 101, 102]⟩ : ByteArray).extract d.1 (d.1 + 1)).data.toList = [digH d.1] := by decide
  have h1 := this ⟨d, h⟩
  apply ByteArray.ext
  apply Array.ext'
  exact h1

set_option maxRecDepth 100000 in
set_option maxHeartbeats 4000000 in
theorem hex_calls (s : ByteArray) (w : World) (hs : s.size ≤ 1000000) :
    Calls Tryd.prog 36 #[.string s] w fun e w' => e = .returned (.string ⟨(hexL s.data.toList).toArray⟩) ∧ Below w.heap.size w w' := by
  go_enter Tryd.func36, Tryd.ntmps36
  go_wp2_with fail
  go_loopw [3, 4] (fun ov iv wr => ∃ k : Nat, k ≤ s.size ∧ iv = .int .i64 k ∧ ov = .string ⟨(hexL (s.data.toList.take k)).toArray⟩ ∧ Below w.heap.size w wr) (fun _ iv _ => s.size - (intOf iv).toNat)
  case atStart => exact ⟨0, by omega, rfl, rfl, Below.refl _ _⟩
  case round =>
    obtain ⟨k, hk, rfl, rfl, bR⟩ := hrel
    by_cases hlt : k < s.size
    · have HL := Lib.hid (show hexL (s.data.toList.take (k + 1)) = hexL (s.data.toList.take k) ++ [digH (s[k].toNat / 16), digH (s[k].toNat % 16)] by rw [take_snoc s k hlt, hexL_snoc])
      have hb := s[k].toNat_lt
      have hl1 : (k : Int) < (s.size : Int) := by omega
      have hl0 : (0 : Int) ≤ (k : Int) := by omega
      have HD1 := hex_digit (s[k].toNat / 16) (by omega)
      have HD2 := hex_digit (s[k].toNat % 16) (by omega)
      obtain ⟨d1, hd1⟩ : ∃ d, s[k].toNat / 16 = d := ⟨_, rfl⟩
      obtain ⟨d2, hd2⟩ : ∃ d, s[k].toNat % 16 = d := ⟨_, rfl⟩
      rw [hd1] at HD1
      rw [hd2] at HD2
      have HLs := Lib.hid (show hexL (s.data.toList.take (k + 1)) = hexL (s.data.toList.take k) ++ [digH d1, digH d2] by rw [HL.out, hd1, hd2])
      have hz1 : (d1 : Int) < 16 := by omega
      have hz2 : (d2 : Int) < 16 := by omega
      have hy0 : 0 ≤ (d1 : Int) := by omega
      have hy1 : 0 ≤ (d2 : Int) := by omega
      have hx1 : (d1 : Int) ≤ (d1 : Int) + 1 := by omega
      have hx2 : (d2 : Int) ≤ (d2 : Int) + 1 := by omega
      have hv1 : (d1 : Int) + 1 ≤ 16 := by omega
      have hv2 : (d2 : Int) + 1 ≤ 16 := by omega
      have ht1 : ((d1 : Int) + 1).toNat = d1 + 1 := by omega
      have ht2 : ((d2 : Int) + 1).toNat = d2 + 1 := by omega
      have hw1 : IntKind.u8.wrap ((s[k].toNat : Int) / 16) = (d1 : Int) := by show ((s[k].toNat : Int) / 16) % 256 = _; omega
      have hw2 : (s[k].toNat : Int) % 16 = (d2 : Int) := by omega
      have hw3 : (s[k].toNat : Int).tmod 16 = (d2 : Int) := by rw [Int.tmod_eq_emod_of_nonneg (by omega)]; omega
      have hw4 : IntKind.u8.wrap ((d1 : Int) + 1) = (d1 : Int) + 1 := by show ((d1 : Int) + 1) % 256 = _; omega
      have hw5 : IntKind.u8.wrap ((d2 : Int) + 1) = (d2 : Int) + 1 := by show ((d2 : Int) + 1) % 256 = _; omega
      have hw6 : IntKind.u8.wrap (d2 : Int) = (d2 : Int) := by show (d2 : Int) % 256 = _; omega
      clear hd1 hd2 hb HL
      have HT0 := hexL_length (s.data.toList.take k)
      rw [List.length_take] at HT0
      obtain ⟨t, ht⟩ : ∃ t : ByteArray, (⟨(hexL (s.data.toList.take k)).toArray⟩ : ByteArray) = t := ⟨_, rfl⟩
      have hts : t.size ≤ 2000000 := by
        rw [← ht]
        show (hexL (s.data.toList.take k)).length ≤ _
        omega
      have hts1 : (t ++ ⟨#[digH d1]⟩).size = t.size + 1 := by rw [ByteArray.size_append]; rfl
      have hts2 : (t ++ ⟨#[digH d1]⟩ ++ ⟨#[digH d2]⟩).size = t.size + 2 := by rw [ByteArray.size_append, hts1]; rfl
      have hte := Lib.hid (show t ++ ⟨#[digH d1]⟩ ++ ⟨#[digH d2]⟩ = (⟨(hexL (s.data.toList.take (k + 1))).toArray⟩ : ByteArray) by
        rw [HLs.out, ← ht]
        apply ByteArray.ext
        apply Array.ext'
        rw [ByteArray.data_append, ByteArray.data_append]
        simp)
      rw [ht]
      clear ht HT0 HLs
      go_wp2_with fail
      go_quiet (fail)
      go_wp2_with fail
      go_roundw
      case rel => exact ⟨k + 1, by omega, by go_num, by rw [hte.out], below_drewN bR nq⟩
      case measure => simp [intOf]; omega
    · obtain rfl : k = s.size := by omega
      have hl0 : (s.size : Int) ≤ (s.size : Int) := by omega
      clear hlt hk
      go_wp2_with fail
      go_ret
      exact ⟨by rw [List.take_of_length_le (by simp)]; rfl, bR⟩
end Go.Proofs.YtinioifhbafngaaDoor
