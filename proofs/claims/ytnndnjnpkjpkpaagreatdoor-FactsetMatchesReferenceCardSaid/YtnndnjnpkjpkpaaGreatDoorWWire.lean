/- Contracts of package wire's Int, String and PutString in the cases that the laws meet. Conditions: lengths that fit memory. -/
import Derived.Test.YtnndnjnpkjpkpaaGreatDoorWClone
import Derived.Lib.Strings
import Derived.Lib.IndexBytes
namespace Go.Proofs.YtnndnjnpkjpkpaaGreatDoor
open Go.RowKit
theorem bytes_append (l : List UInt8) (s : ByteArray) : (⟨l.toArray⟩ : ByteArray) ++ s = ⟨(l ++ s.data.toList).toArray⟩ := by
  apply ByteArray.ext
  apply Array.ext'
  rw [ByteArray.data_append]
  simp

theorem putString_yes (s : ByteArray) (w : World) (hs : s.size ≤ 65536) :
    Calls Tryz.prog 83 #[.string s] w fun e W' => e = .returned (.tuple #[.string ⟨(putS s.data.toList).toArray⟩, .int .i64 0]) ∧ Below w.heap.size w W' := by
  have hs2 : (s.size : Int) ≤ 65536 := by omega
  go_enter Tryz.func83, Tryz.ntmps83
  go_wp2_with fail
  refine (putInt_yes _ _ (by omega) (by omega)).mono ?_
  rintro e w1 ⟨rfl, hB⟩
  have hl := (putI_length (s.size : Int)).2
  go_wp2_with fail
  go_ret2
  refine ⟨?_, hB⟩
  rw [show putS s.data.toList = putI (s.size : Int) ++ s.data.toList from rfl, ← bytes_append]
  rfl

theorem putString_no (s : ByteArray) (w : World) (hs : 65536 < s.size) (hs1 : s.size ≤ 9223372036854775807) :
    Calls Tryz.prog 83 #[.string s] w fun e W' => e = .returned (.tuple #[.string ⟨#[]⟩, .int .i64 10]) ∧ w = W' := by
  have hs2 : (65536 : Int) < (s.size : Int) := by omega
  go_enter Tryz.func83, Tryz.ntmps83
  go_wp2_with fail
  go_ret2
  exact ⟨rfl, rfl⟩

theorem strings_Clone (s : ByteArray) (w : World) (h : s.size ≤ 281474976710656) :
    Calls Tryz.prog 37 #[.string s] w fun e w' => e = .returned (.string s) ∧ Below w.heap.size w w' := by
  go_enter Tryz.func37, Tryz.ntmps37
  go_wp2_with fail
  refine (stringslite_Clone _ _ h).mono ?_
  rintro e w2 ⟨rfl, hB⟩
  go_wp2_with fail
  go_ret
  exact ⟨rfl, hB⟩

/-! ### One contract for each, for every argument -/
/-- What String returns. -/
def strF (s : List UInt8) (a : Int) : List UInt8 × Int × Int :=
  if a < 0 ∨ (s.length : Int) < a then ([], 0, 2) else
  match getS s a.toNat with
  | none => ([], 0, 10)
  | some (v, e) => (v, (e : Int), 0)

end Go.Proofs.YtnndnjnpkjpkpaaGreatDoor
