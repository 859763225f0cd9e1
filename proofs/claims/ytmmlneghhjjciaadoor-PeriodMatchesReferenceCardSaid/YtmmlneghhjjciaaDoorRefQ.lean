/- Contracts of the reference implementation of layer 4: Format and Parse. -/
import Derived.Test.YtmmlneghhjjciaaDoorRefP
namespace Go.Proofs.YtmmlneghhjjciaaDoor
open Go.RowKit

theorem str_bytes (l : List UInt8) : strOfNums (l.map fun b => ((b.toNat : Nat) : Int)) = ⟨l.toArray⟩ := by
  apply ByteArray.ext
  apply Array.ext'
  rw [strOfNums_data, List.map_map]
  conv => rhs; rw [← List.map_id l]
  refine List.map_congr_left fun b _ => ?_
  show UInt8.ofNat (((b.toNat : Nat) : Int)).toNat = b
  rw [Int.toNat_natCast, UInt8.ofNat_toNat]

theorem rFormat_not (p : Int) (w : World) (hp : p < 0 ∨ 1200 ≤ p) : Calls Tryd.prog 13 #[.int .i64 p] w fun e W' => e = .returned (.tuple #[.string ⟨#[]⟩, .int .i64 40]) ∧ w = W' := by
  rcases hp with h | h
  · go_enter Tryd.func13, Tryd.ntmps13
    go_wp2_with fail
    go_ret2
    exact ⟨rfl, rfl⟩
  · have h0 : 0 ≤ p := by omega
    go_enter Tryd.func13, Tryd.ntmps13
    go_wp2_with fail
    go_ret2
    exact ⟨rfl, rfl⟩

set_option maxRecDepth 100000 in
theorem rFormat_calls (p : Nat) (hp : p < 1200) (w : World) :
    Calls Tryd.prog 13 #[.int .i64 (p : Int)] w fun e W' => e = .returned (.tuple #[.string ⟨(fmtN p).toArray⟩, .int .i64 0]) ∧ Below w.heap.size w W' := by
  have k0 : (0 : Int) ≤ (p : Int) := by omega
  have k1 : (p : Int) < 1200 := by omega
  obtain ⟨F, hF⟩ : ∃ F, fmtN p = F := ⟨_, rfl⟩
  rw [hF]
  have HF := Lib.hid hF
  clear hF
  obtain ⟨y, hy⟩ : ∃ y : Int, 2000 + (p : Int) / 12 = y := ⟨_, rfl⟩
  obtain ⟨m, hm⟩ : ∃ m : Int, 1 + (p : Int) % 12 = m := ⟨_, rfl⟩
  obtain ⟨a, ha⟩ : ∃ a : Int, y / 1000 = a := ⟨_, rfl⟩
  obtain ⟨b, hb⟩ : ∃ b : Int, y / 100 = b := ⟨_, rfl⟩
  obtain ⟨c, hc⟩ : ∃ c : Int, y / 10 = c := ⟨_, rfl⟩
  have y0 : 0 ≤ y := by omega
  have m0 : 0 ≤ m := by omega
  have b0 : 0 ≤ b := by omega
  have c0 : 0 ≤ c := by omega
  have a0 : 0 ≤ a := by omega
  have a1 : a ≤ 9 := by omega
  have m1 : m ≤ 12 := by omega
  have HE : Hid ([48 + a, 48 + b % 10, 48 + c % 10, 48 + y % 10, 45, 48 + m / 10, 48 + m % 10] = F.map fun t => ((t.toNat : Nat) : Int)) := Lib.hid (by
    rw [← HF.out]
    unfold fmtN
    simp only [List.map_cons, List.map_nil, UInt8.toNat_ofNat']
    have e0 : ((45 : UInt8).toNat : Int) = 45 := rfl
    rw [e0]
    congr 1
    · omega
    congr 1
    · omega
    congr 1
    · omega
    congr 1
    · omega
    congr 2
    · omega
    congr 1
    omega)
  have hcv := run_convert_bytes_arg (P := Tryd.prog) (w.alloc (.cells #[.int .u8 (48 + a), .int .u8 (48 + b % 10), .int .u8 (48 + c % 10), .int .u8 (48 + y % 10), .int .u8 45, .int .u8 (48 + m / 10), .int .u8 (48 + m % 10)] 5)) 37 5 Tryd.underlying37 Tryd.underlying5 w.heap.size 0 7 7 [48 + a, 48 + b % 10, 48 + c % 10, 48 + y % 10, 45, 48 + m / 10, 48 + m % 10] rfl (fun i hi => by
    rw [World.cell?_alloc_new]
    rcases (show i = 0 ∨ i = 1 ∨ i = 2 ∨ i = 3 ∨ i = 4 ∨ i = 5 ∨ i = 6 by omega) with rfl | rfl | rfl | rfl | rfl | rfl | rfl <;> rfl) 9 Tryd.underlying9
  rw [HE.out, str_bytes] at hcv
  go_enter Tryd.func13, Tryd.ntmps13
  go_wp2_with fail
  go_ret2
  exact ⟨rfl, (Below.refl _ _).alloc (Nat.le_refl _) _⟩
end Go.Proofs.YtmmlneghhjjciaaDoor
