/- The contracts of package digest's Sum, Leaf, Node and Chain: they return the plain digests. Conditions: the table of constants reads as the program lays it; at most 10^10 bytes each. -/
import Derived.Test.YtinioifhbafngaaDoorSum
import Derived.Test.YtinioifhbafngaaDoorRefNode
namespace Go.Proofs.YtinioifhbafngaaDoor
open Go.RowKit

theorem mk_eta (t : ByteArray) : (⟨t.data.toList.toArray⟩ : ByteArray) = t := by
  apply ByteArray.ext; simp
theorem data_length (t : ByteArray) : t.data.toList.length = t.size := by simp

theorem sum_calls (parts : List Bs) (w : World) (hK : Konst w) (hp1 : 1 ≤ parts.length) (hp : parts.length ≤ 3) (hT : parts.flatten.length ≤ 100000000000) :
    Calls Tryd.prog 37 #[.slice (some ⟨w.heap.size, 0, none⟩) parts.length parts.length] (w.alloc (.cells (cellsS parts).toArray 9)) fun e W' => e = .returned (.string ⟨(shaF parts.flatten).toArray⟩) ∧ Below w.heap.size w W' := by
  have hrow := World.ownsRow_lit (base := w.heap.size) (e := 9) (size := 1) w (cellsS parts).toArray parts.length (Nat.le_refl _) (by unfold maxLen; omega) (by simp [cellsS_length])
  have b := (Below.refl w.heap.size w).alloc (Nat.le_refl _) (.cells (cellsS parts).toArray 9)
  refine (callsIn_wide.1 (sum_in parts w.heap.size _ (hK.keep b) hK.lt (by simpa using hrow) hp1 hp hT)).mono ?_
  rintro e W' ⟨rfl, b'⟩
  exact ⟨rfl, b.trans b'⟩
theorem sum_one (s : ByteArray) (w : World) (hK : Konst w) (hs : s.size ≤ 10000000000) :
    Calls Tryd.prog 37 #[.slice (some ⟨w.heap.size, 0, none⟩) 1 1] (w.alloc (.cells #[.string s] 9)) fun e W' => e = .returned (.string ⟨(shaF s.data.toList).toArray⟩) ∧ Below w.heap.size w W' := by
  have := sum_calls [s.data.toList] w hK (by simp) (by simp) (by simp; omega)
  simpa [cellsS, mk_eta] using this
theorem sum_two (c : UInt8) (s : ByteArray) (w : World) (hK : Konst w) (hs : s.size ≤ 10000000000) :
    Calls Tryd.prog 37 #[.slice (some ⟨w.heap.size, 0, none⟩) 2 2] (w.alloc (.cells #[.string ⟨#[c]⟩, .string s] 9)) fun e W' => e = .returned (.string ⟨(shaF (c :: s.data.toList)).toArray⟩) ∧ Below w.heap.size w W' := by
  have := sum_calls [[c], s.data.toList] w hK (by simp) (by simp) (by simp; omega)
  simpa [cellsS, mk_eta] using this
theorem sum_three (c : UInt8) (s t : ByteArray) (w : World) (hK : Konst w) (hs : s.size ≤ 10000000000) (ht : t.size ≤ 10000000000) :
    Calls Tryd.prog 37 #[.slice (some ⟨w.heap.size, 0, none⟩) 3 3] (w.alloc (.cells #[.string ⟨#[c]⟩, .string s, .string t] 9)) fun e W' => e = .returned (.string ⟨(shaF (c :: (s.data.toList ++ t.data.toList))).toArray⟩) ∧ Below w.heap.size w W' := by
  have := sum_calls [[c], s.data.toList, t.data.toList] w hK (by simp) (by simp) (by simp; omega)
  simpa [cellsS, mk_eta] using this

theorem Sum_calls (s : ByteArray) (w : World) (hK : Konst w) (hs : s.size ≤ 10000000000) :
    Calls Tryd.prog 12 #[.string s] w fun e W' => e = .returned (.string ⟨(shaF s.data.toList).toArray⟩) ∧ Below w.heap.size w W' := by
  have H := sum_one s w hK hs
  go_enter Tryd.func12, Tryd.ntmps12
  go_wp2_with fail
  refine H.mono ?_
  rintro e w' ⟨rfl, b⟩
  go_wp2_with fail
  go_ret
  exact ⟨rfl, b⟩
theorem Leaf_calls (s : ByteArray) (w : World) (hK : Konst w) (hs : s.size ≤ 10000000000) :
    Calls Tryd.prog 14 #[.string s] w fun e W' => e = .returned (.string ⟨(leafF shaF s.data.toList).toArray⟩) ∧ Below w.heap.size w W' := by
  have H := sum_two 0 s w hK hs
  go_enter Tryd.func14, Tryd.ntmps14
  go_wp2_with fail
  refine H.mono ?_
  rintro e w' ⟨rfl, b⟩
  go_wp2_with fail
  go_ret
  exact ⟨rfl, b⟩
theorem Node_calls (s t : ByteArray) (w : World) (hK : Konst w) (hs : s.size ≤ 10000000000) (ht : t.size ≤ 10000000000) :
    Calls Tryd.prog 16 #[.string s, .string t] w fun e W' => e = .returned (.string ⟨(nodeF shaF s.data.toList t.data.toList).toArray⟩) ∧ Below w.heap.size w W' := by
  have H := sum_three 1 s t w hK hs ht
  go_enter Tryd.func16, Tryd.ntmps16
  go_wp2_with fail
  refine H.mono ?_
  rintro e w' ⟨rfl, b⟩
  go_wp2_with fail
  go_ret
  exact ⟨rfl, b⟩
theorem Chain_calls (s t : ByteArray) (w : World) (hK : Konst w) (hs : s.size ≤ 10000000000) (ht : t.size ≤ 10000000000) :
    Calls Tryd.prog 18 #[.string s, .string t] w fun e W' => e = .returned (.string ⟨(chainF shaF s.data.toList t.data.toList).toArray⟩) ∧ Below w.heap.size w W' := by
  have H := sum_three 2 s t w hK hs ht
  go_enter Tryd.func18, Tryd.ntmps18
  go_wp2_with fail
  refine H.mono ?_
  rintro e w' ⟨rfl, b⟩
  go_wp2_with fail
  go_ret
  exact ⟨rfl, b⟩
end Go.Proofs.YtinioifhbafngaaDoor
