/- The contracts of the reference implementation's Leaf, Node and Chain: they return the plain digests. Condition: at most a million bytes in all. -/
import Derived.Test.YtinioifhbafngaaDoorRefSum
namespace Go.Proofs.YtinioifhbafngaaDoor
open Go.RowKit

theorem one_bytes (b : UInt8) (s : ByteArray) : ((⟨#[b]⟩ : ByteArray) ++ s).data.toList = b :: s.data.toList := by
  rw [ByteArray.data_append]; simp
theorem two_bytes (b : UInt8) (s t : ByteArray) : ((⟨#[b]⟩ : ByteArray) ++ s ++ t).data.toList = b :: (s.data.toList ++ t.data.toList) := by
  rw [ByteArray.data_append, ByteArray.data_append]; simp
theorem one_size (b : UInt8) (s : ByteArray) : ((⟨#[b]⟩ : ByteArray) ++ s).size = s.size + 1 := by
  rw [ByteArray.size_append]; show 1 + _ = _; omega
theorem two_size (b : UInt8) (s t : ByteArray) : ((⟨#[b]⟩ : ByteArray) ++ s ++ t).size = s.size + t.size + 1 := by
  rw [ByteArray.size_append, one_size]; omega

theorem refLeaf_calls (s : ByteArray) (w : World) (hs : s.size ≤ 900000) :
    Calls Tryd.prog 15 #[.string s] w fun e W' => e = .returned (.string ⟨(leafF shaF s.data.toList).toArray⟩) ∧ Below w.heap.size w W' := by
  have HS := Lib.hid (one_size 0 s)
  have HB := Lib.hid (one_bytes 0 s)
  go_enter Tryd.func15, Tryd.ntmps15
  go_wp2_with fail
  refine (refSum_calls _ _ (by rw [HS.out]; omega)).mono ?_
  rintro e w' ⟨rfl, bA⟩
  go_wp2_with fail
  go_ret
  exact ⟨rfl, bA⟩
theorem refNode_calls (s t : ByteArray) (w : World) (hs : s.size + t.size ≤ 900000) :
    Calls Tryd.prog 17 #[.string s, .string t] w fun e W' => e = .returned (.string ⟨(nodeF shaF s.data.toList t.data.toList).toArray⟩) ∧ Below w.heap.size w W' := by
  have HS := Lib.hid (two_size 1 s t)
  have HB := Lib.hid (two_bytes 1 s t)
  go_enter Tryd.func17, Tryd.ntmps17
  go_wp2_with fail
  refine (refSum_calls _ _ (by rw [HS.out]; omega)).mono ?_
  rintro e w' ⟨rfl, bA⟩
  go_wp2_with fail
  go_ret
  exact ⟨rfl, bA⟩
theorem refChain_calls (s t : ByteArray) (w : World) (hs : s.size + t.size ≤ 900000) :
    Calls Tryd.prog 19 #[.string s, .string t] w fun e W' => e = .returned (.string ⟨(chainF shaF s.data.toList t.data.toList).toArray⟩) ∧ Below w.heap.size w W' := by
  have HS := Lib.hid (two_size 2 s t)
  have HB := Lib.hid (two_bytes 2 s t)
  go_enter Tryd.func19, Tryd.ntmps19
  go_wp2_with fail
  refine (refSum_calls _ _ (by rw [HS.out]; omega)).mono ?_
  rintro e w' ⟨rfl, bA⟩
  go_wp2_with fail
  go_ret
  exact ⟨rfl, bA⟩
end Go.Proofs.YtinioifhbafngaaDoor
