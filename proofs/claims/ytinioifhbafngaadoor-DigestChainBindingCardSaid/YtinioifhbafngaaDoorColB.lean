/- The contract of the laws' collide, whatever the lists: it answers. And Same's for all lists. Condition: the table of constants reads as the program lays it; strings of at most 10^9 bytes. -/
import Derived.Test.YtinioifhbafngaaDoorHeads
namespace Go.Proofs.YtinioifhbafngaaDoor
open Go.RowKit

set_option maxRecDepth 100000 in
set_option maxHeartbeats 4000000 in
/-- collide answers, whatever the lists. -/
theorem collide_any (a b : List Bs) (A B : Option Addr) (ca cb : Nat) (w : World) (hK : HK w) (ha : HS w A a) (hb : HS w B b) (hAl : Lies A ca a.length) (hBl : Lies B cb b.length) (hla : a.length ≤ 1000) (hlb : b.length ≤ 1000) (hca : a.length ≤ ca)
    (hxa : ∀ x ∈ a, x.length ≤ 1000000000) (hxb : ∀ x ∈ b, x.length ≤ 1000000000) :
    Calls Tryd.prog 32 #[.slice A a.length ca, .slice B b.length cb] w fun e W' => (∃ z, e = .returned (.bool z)) ∧ Below w.heap.size w W' := by
  have Hxa := Lib.hid hxa
  have Hxb := Lib.hid hxb
  have HCa : Hid (∀ w' i, Hld w w' → i < a.length → ∃ g, A = some ⟨g, 0, none⟩ ∧ w'.cell? ⟨g, i, none⟩ = some (.string ⟨(a.getD i []).toArray⟩)) := Lib.hid fun w' i h hi => by
    have hA' : ∃ g, A = some ⟨g, 0, none⟩ := by
      rcases hAl with ⟨_, _, h⟩ | h
      · omega
      · exact h
    obtain ⟨g, rfl⟩ := hA'
    exact ⟨g, rfl, (ha.keep (Hid.out h)).cellAt i hi⟩
  have HCb : Hid (∀ w' i, Hld w w' → i < b.length → ∃ g, B = some ⟨g, 0, none⟩ ∧ w'.cell? ⟨g, i, none⟩ = some (.string ⟨(b.getD i []).toArray⟩)) := Lib.hid fun w' i h hi => by
    have hA' : ∃ g, B = some ⟨g, 0, none⟩ := by
      rcases hBl with ⟨_, _, h⟩ | h
      · omega
      · exact h
    obtain ⟨g, rfl⟩ := hA'
    exact ⟨g, rfl, (hb.keep (Hid.out h)).cellAt i hi⟩
  have HKn : Hid (∀ w', Hld w w' → Konst w') := Lib.hid fun w' h => Hid.out (hK.keep (Hid.out h))
  have Hma : Hid (∀ i, i < a.length → (a.getD i []).length ≤ 1000000000) := Lib.hid fun i hi => hxa _ (by rw [List.getD_eq_getElem?_getD, List.getElem?_eq_getElem hi]; exact List.getElem_mem _)
  have Hmb : Hid (∀ i, i < b.length → (b.getD i []).length ≤ 1000000000) := Lib.hid fun i hi => hxb _ (by rw [List.getD_eq_getElem?_getD, List.getElem?_eq_getElem hi]; exact List.getElem_mem _)
  clear hxa hxb ha hb hK Hxa Hxb hAl hBl
  obtain ⟨na, hna⟩ : ∃ n, a.length = n := ⟨_, rfl⟩
  obtain ⟨nb, hnb⟩ : ∃ n, b.length = n := ⟨_, rfl⟩
  rw [hna] at hla hca HCa Hma
  rw [hnb] at hlb HCb Hmb
  rw [hna, hnb]
  clear hna hnb
  go_enter Tryd.func32, Tryd.ntmps32
  go_wp2_with fail
  go_loopw [5] (fun iv wr => ∃ i : Nat, iv = .int .i64 i ∧ i ≤ na ∧ i ≤ nb ∧ Hld w wr) (fun iv _ => na - (intOf iv).toNat)
  case atStart => exact ⟨0, rfl, by omega, by omega, Hld.refl w⟩
  case round =>
    obtain ⟨i, rfl, hi1, hi2, aR⟩ := hrel
    by_cases hl1 : i < na
    case neg =>
      have k1 : (na : Int) ≤ (i : Int) := by omega
      go_wp2_with fail
      go_ret
      exact ⟨⟨_, rfl⟩, Hid.out aR⟩
    by_cases hl2 : i < nb
    case neg =>
      have k1 : (i : Int) < (na : Int) := by omega
      have k2 : (nb : Int) ≤ (i : Int) := by omega
      go_wp2_with fail
      go_ret
      exact ⟨⟨_, rfl⟩, Hid.out aR⟩
    obtain ⟨ba, rfl, c1⟩ := HCa.out wr i aR hl1
    obtain ⟨bb, rfl, c2⟩ := HCb.out wr i aR hl2
    have m1 := Hma.out i hl1
    have m2 := Hmb.out i hl2
    have k1 : (i : Int) < (na : Int) := by omega
    have k2 : (i : Int) < (nb : Int) := by omega
    have k3 : (0 : Int) ≤ (i : Int) := by omega
    have k4 : (i : Int) ≤ (ca : Int) := by omega
    have HKw : Hid (∀ w', Hld wr w' → Konst w') := Lib.hid fun w' h => HKn.out w' (aR.step (Hid.out h))
    generalize a.getD i [] = x at *
    generalize b.getD i [] = y at *
    have hkeep : ∀ W', Hld wr W' → Hld wr W' ∧ W'.cell? ⟨ba, i, none⟩ = some (.string ⟨x.toArray⟩) ∧ W'.cell? ⟨bb, i, none⟩ = some (.string ⟨y.toArray⟩) := fun W' h =>
      ⟨h, ((Hid.out h).cell (p := ⟨ba, i, none⟩) (lt_of_cell c1)).trans c1, ((Hid.out h).cell (p := ⟨bb, i, none⟩) (lt_of_cell c2)).trans c2⟩
    by_cases he : x = y
    · subst he
      go_wp2_with fail
      go_quiet (fail)
      all_goals
        go_wp2_with fail
        go_roundw
        case rel => exact ⟨i + 1, by go_num, by omega, by omega, Lib.hid (below_drewN (Hid.out aR) nq)⟩
        case measure => simp [intOf]; omega
    · have hbe : (x == y) = false := beq_eq_false_iff_ne.2 he
      go_wp2_with fail
      go_region_held3 (fun w' => Hld wr w' ∧ w'.cell? ⟨ba, i, none⟩ = some (.string ⟨x.toArray⟩) ∧ w'.cell? ⟨bb, i, none⟩ = some (.string ⟨y.toArray⟩))
        (first
          | exact hkeep _ (Hld.start _)
          | exact hkeep _ hld4
          | exact hkeep _ hld5)
        (first
          | (go_at_call 12; (with_reducible refine (Sum_calls ⟨x.toArray⟩ _ (HKw.out _ (Hld.start wr)) (by rw [mk_size]; exact Nat.le_trans m1 (by decide))).mono ?_); rintro e w4 ⟨rfl, b4⟩; have hld4 := (Hld.start wr).step b4)
          | (go_at_call 12; (with_reducible refine (Sum_calls ⟨y.toArray⟩ _ (HKw.out _ hld4) (by rw [mk_size]; exact Nat.le_trans m2 (by decide))).mono ?_); rintro e w5 ⟨rfl, b5⟩; have hld5 := hld4.step b5))
      have hend := aR.step (Hid.out hld5)
      go_wp2_with fail
      · go_ret
        exact ⟨⟨_, rfl⟩, Hid.out hend⟩
      · exact ⟨⟨i + 1, by go_num, by omega, by omega, hend⟩, by simp [intOf]; omega⟩

theorem same_len (a b : List Bs) (A B : Option Addr) (ca cb : Nat) (w : World) (hl : a.length ≠ b.length) :
    Calls Tryd.prog 25 #[.slice A a.length ca, .slice B b.length cb] w fun e W' => e = .returned (.bool false) ∧ Below w.heap.size w W' := by
  have q1 : ((a.length : Int) != (b.length : Int)) = true := by rw [bne_iff_ne]; omega
  generalize a.length = n at *
  generalize b.length = m at *
  have q2 : ((n : Int) == (m : Int)) = false := by rw [beq_eq_false_iff_ne]; omega
  go_enter Tryd.func25, Tryd.ntmps25
  go_wp2_with fail
  go_ret
  exact ⟨rfl, Below.refl _ _⟩
theorem same_any (a b : List Bs) (A B : Option Addr) (ca cb : Nat) (w : World) (hA : Strs w A a) (hB : Strs w B b) (hl : a.length ≤ 1000000) :
    Calls Tryd.prog 25 #[.slice A a.length ca, .slice B b.length cb] w fun e W' => e = .returned (.bool (decide (a = b))) ∧ Below w.heap.size w W' := by
  by_cases he : a = b
  · subst he
    rw [decide_eq_true rfl]
    exact same_eq a A B ca cb w hA hB hl
  · by_cases hlen : a.length = b.length
    · have h0 : a ≠ [] := by
        rintro rfl
        exact he (List.length_eq_zero_iff.1 hlen.symm).symm
      have h1 : b ≠ [] := by
        rintro rfl
        exact he (List.length_eq_zero_iff.1 hlen)
      rcases hA with h | ⟨ba, oa, rfl, hA⟩
      · exact absurd h h0
      rcases hB with h | ⟨bb, ob, rfl, hB⟩
      · exact absurd h h1
      exact same_main a b ba oa ca bb ob cb w hlen hA hB hl
    · rw [decide_eq_false he]
      exact same_len a b A B ca cb w hlen
end Go.Proofs.YtinioifhbafngaaDoor
