/- The contracts of package digest's Sum, Leaf, Node and Chain: they return the plain digests. Conditions: the table of constants reads as the program lays it; at most 10^10 bytes each. -/
import Derived.Test.YtnbeebndcgoalaaDoorDSum
namespace Go.Proofs.YtnbeebndcgoalaaDoor
open Go.RowKit
theorem mk_eta (t : ByteArray) : (⟨t.data.toList.toArray⟩ : ByteArray) = t := by
  apply ByteArray.ext; simp
theorem sum_calls (parts : List Bs) (w : World) (hK : Konst w) (hp1 : 1 ≤ parts.length) (hp : parts.length ≤ 3) (hT : parts.flatten.length ≤ 100000000000) :
    Calls Tryd.prog 60 #[.slice (some ⟨w.heap.size, 0, none⟩) parts.length parts.length] (w.alloc (.cells (cellsS parts).toArray 9)) fun e W' => e = .returned (.string ⟨(shaF parts.flatten).toArray⟩) ∧ Below w.heap.size w W' := by
  have hrow := World.ownsRow_lit (base := w.heap.size) (e := 9) (size := 1) w (cellsS parts).toArray parts.length (Nat.le_refl _) (by unfold maxLen; omega) (by simp [cellsS_length])
  have b := (Below.refl w.heap.size w).alloc (Nat.le_refl _) (.cells (cellsS parts).toArray 9)
  refine (callsIn_wide.1 (sum_in parts w.heap.size _ (hK.keep b) hK.lt (by simpa using hrow) hp1 hp hT)).mono ?_
  rintro e W' ⟨rfl, b'⟩
  exact ⟨rfl, b.trans b'⟩
theorem sum_one (s : ByteArray) (w : World) (hK : Konst w) (hs : s.size ≤ 10000000000) :
    Calls Tryd.prog 60 #[.slice (some ⟨w.heap.size, 0, none⟩) 1 1] (w.alloc (.cells #[.string s] 9)) fun e W' => e = .returned (.string ⟨(shaF s.data.toList).toArray⟩) ∧ Below w.heap.size w W' := by
  have := sum_calls [s.data.toList] w hK (by simp) (by simp) (by simp; omega)
  simpa [cellsS, mk_eta] using this
theorem Sum_calls (s : ByteArray) (w : World) (hK : Konst w) (hs : s.size ≤ 10000000000) :
    Calls Tryd.prog 37 #[.string s] w fun e W' => e = .returned (.string ⟨(shaF s.data.toList).toArray⟩) ∧ Below w.heap.size w W' := by
  have H := sum_one s w hK hs
  go_enter Tryd.func37, Tryd.ntmps37
  go_wp2_with fail
  refine H.mono ?_
  rintro e w' ⟨rfl, b⟩
  go_wp2_with fail
  go_ret
  exact ⟨rfl, b⟩
end Go.Proofs.YtnbeebndcgoalaaDoor
