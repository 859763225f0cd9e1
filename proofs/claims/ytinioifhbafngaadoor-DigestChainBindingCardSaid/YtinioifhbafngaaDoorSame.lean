/- The contract of the reference implementation's Same: whether two slices read the same strings. -/
import Derived.Test.YtinioifhbafngaaDoorFew
namespace Go.Proofs.YtinioifhbafngaaDoor
open Go.RowKit

theorem bytes_inj (x y : Bs) (h : x ≠ y) : (⟨x.toArray⟩ : ByteArray) ≠ ⟨y.toArray⟩ := by
  intro e
  apply h
  have := congrArg (fun t : ByteArray => t.data.toList) e
  simpa using this
theorem same_next (a b : List Bs) (k : Nat) (ha : k < a.length) (hb : k < b.length) (h : a.take k = b.take k) (e : a.getD k [] = b.getD k []) : a.take (k + 1) = b.take (k + 1) := by
  rw [List.getD_eq_getElem?_getD, List.getD_eq_getElem?_getD, List.getElem?_eq_getElem ha, List.getElem?_eq_getElem hb] at e
  rw [List.take_succ_eq_append_getElem ha, List.take_succ_eq_append_getElem hb, h]
  simp only [Option.getD_some] at e
  rw [e]

set_option maxRecDepth 100000 in
set_option maxHeartbeats 4000000 in
theorem same_main (a b : List Bs) (ba oa ca bb ob cb : Nat) (w : World) (hl : a.length = b.length) (ha : StrsAt w ba oa a) (hb : StrsAt w bb ob b) (hn : a.length ≤ 1000000) :
    Calls Tryd.prog 25 #[.slice (some ⟨ba, oa, none⟩) a.length ca, .slice (some ⟨bb, ob, none⟩) b.length cb] w fun e W' => e = .returned (.bool (decide (a = b))) ∧ Below w.heap.size w W' := by
  have Ha := Lib.hid ha
  have Hb := Lib.hid hb
  have Hl := Lib.hid hl
  rw [← hl]
  clear ha hb hl
  go_enter Tryd.func25, Tryd.ntmps25
  go_wp2_with fail
  go_loopw [5] (fun iv wr => ∃ k : Nat, k ≤ a.length ∧ iv = .int .i64 k ∧ Hid (a.take k = b.take k) ∧ Below w.heap.size w wr) (fun iv _ => a.length - (intOf iv).toNat)
  case atStart => exact ⟨0, by omega, rfl, Lib.hid rfl, Below.refl _ _⟩
  case round =>
    obtain ⟨k, hk, rfl, Hp, bR⟩ := hrel
    by_cases hlt : k < a.length
    · have c1 : wr.cell? ⟨ba, oa + k, none⟩ = _ := (Ha.out.keep bR) k hlt
      have c2 : wr.cell? ⟨bb, ob + k, none⟩ = _ := (Hb.out.keep bR) k (by rw [← Hl.out]; exact hlt)
      have k1 : (k : Int) < (a.length : Int) := by omega
      have k0 : 0 ≤ (k : Int) := by omega
      by_cases he : a.getD k [] = b.getD k []
      · have Hn := Lib.hid (same_next a b k hlt (by rw [← Hl.out]; exact hlt) Hp.out he)
        rw [he] at c1
        clear he
        generalize b.getD k [] = x at *
        go_wp2_with fail
        go_quiet (fail)
        all_goals
          go_wp2_with fail
          go_roundw
          case rel => exact ⟨k + 1, by omega, by go_num, Hn, below_drewN bR nq⟩
          case measure => simp [intOf]; omega
      · have hne := bytes_inj _ _ he
        have Hne := Lib.hid (show ¬ a = b from fun e => he (by rw [e]))
        clear he
        generalize a.getD k [] = x at *
        generalize b.getD k [] = y at *
        generalize (⟨x.toArray⟩ : ByteArray) = X at *
        generalize (⟨y.toArray⟩ : ByteArray) = Y at *
        have hd : (X.toList == Y.toList) = false := by
          rw [beq_eq_false_iff_ne, ByteArray.toList_eq, ByteArray.toList_eq]
          intro e
          exact hne (ByteArray.ext (Array.ext' e))
        clear hne
        go_wp2_with fail
        go_quiet (fail)
        go_wp2_with fail
        go_ret
        exact ⟨by rw [decide_eq_false Hne.out]; rfl, below_drewN bR nq⟩
    · have k1 : (a.length : Int) ≤ (k : Int) := by omega
      have He := Lib.hid (show a = b by
        have h := Hp.out
        have h2 := Hl.out
        rw [List.take_of_length_le (by omega), List.take_of_length_le (by omega)] at h
        exact h)
      clear hlt
      go_wp2_with fail
      go_ret
      exact ⟨by rw [decide_eq_true He.out]; rfl, bR⟩
end Go.Proofs.YtinioifhbafngaaDoor
