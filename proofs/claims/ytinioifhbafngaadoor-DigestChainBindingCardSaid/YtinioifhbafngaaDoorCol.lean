/- The contract of the laws' collide: whether two lists have two different strings with the same digest at one place. Condition: the table of constants reads as the program lays it; strings of at most 10^9 bytes. -/
import Derived.Test.YtinioifhbafngaaDoorApp
namespace Go.Proofs.YtinioifhbafngaaDoor
open Go.RowKit

theorem HS.cellAt {w : World} {g : Nat} {l : List Bs} (h : HS w (some ⟨g, 0, none⟩) l) (k : Nat) (hk : k < l.length) : w.cell? ⟨g, k, none⟩ = some (.string ⟨(l.getD k []).toArray⟩) := by
  rcases Hid.out h with h' | ⟨b, o, he, hs⟩
  · subst h'; simp at hk
  · have he2 := Option.some.inj he
    injection he2 with h1 h2 h3
    subst h1 h2
    have := hs k hk
    rwa [Nat.zero_add] at this

set_option maxRecDepth 100000 in
set_option maxHeartbeats 4000000 in
/-- Where two lists collide, collide says so. -/
theorem collide_main (a b : List Bs) (ba bb ca cb : Nat) (w : World) (hK : HK w) (ha : HS w (some ⟨ba, 0, none⟩) a) (hb : HS w (some ⟨bb, 0, none⟩) b) (hla : a.length ≤ 1000) (hlb : b.length ≤ 1000) (hca : a.length ≤ ca)
    (hxa : ∀ x ∈ a, x.length ≤ 1000000000) (hxb : ∀ x ∈ b, x.length ≤ 1000000000) (hc : Collide shaF a b) :
    Calls Tryd.prog 32 #[.slice (some ⟨ba, 0, none⟩) a.length ca, .slice (some ⟨bb, 0, none⟩) b.length cb] w fun e W' => e = .returned (.bool true) ∧ Below w.heap.size w W' := by
  have Hxa := Lib.hid hxa
  have Hxb := Lib.hid hxb
  have HCa : Hid (∀ w' i, Hld w w' → i < a.length → w'.cell? ⟨ba, i, none⟩ = some (.string ⟨(a.getD i []).toArray⟩)) := Lib.hid fun w' i h hi => (ha.keep (Hid.out h)).cellAt i hi
  have HCb : Hid (∀ w' i, Hld w w' → i < b.length → w'.cell? ⟨bb, i, none⟩ = some (.string ⟨(b.getD i []).toArray⟩)) := Lib.hid fun w' i h hi => (hb.keep (Hid.out h)).cellAt i hi
  have HCol : Hid (∃ j, j < a.length ∧ j < b.length ∧ a.getD j [] ≠ b.getD j [] ∧ shaF (a.getD j []) = shaF (b.getD j [])) := Lib.hid (by
    obtain ⟨j, u, v, h1, h2, h3, h4⟩ := hc
    refine ⟨j, (List.getElem?_eq_some_iff.1 h1).1, (List.getElem?_eq_some_iff.1 h2).1, ?_, ?_⟩
    · rw [List.getD_eq_getElem?_getD, List.getD_eq_getElem?_getD, h1, h2]; exact h3
    · rw [List.getD_eq_getElem?_getD, List.getD_eq_getElem?_getD, h1, h2]; exact h4)
  have HKn : Hid (∀ w', Hld w w' → Konst w') := Lib.hid fun w' h => Hid.out (hK.keep (Hid.out h))
  have Hma : Hid (∀ i, i < a.length → (a.getD i []).length ≤ 1000000000) := Lib.hid fun i hi => hxa _ (by rw [List.getD_eq_getElem?_getD, List.getElem?_eq_getElem hi]; exact List.getElem_mem _)
  have Hmb : Hid (∀ i, i < b.length → (b.getD i []).length ≤ 1000000000) := Lib.hid fun i hi => hxb _ (by rw [List.getD_eq_getElem?_getD, List.getElem?_eq_getElem hi]; exact List.getElem_mem _)
  clear hxa hxb hc ha hb hK Hxa Hxb
  obtain ⟨na, hna⟩ : ∃ n, a.length = n := ⟨_, rfl⟩
  obtain ⟨nb, hnb⟩ : ∃ n, b.length = n := ⟨_, rfl⟩
  rw [hna] at hla hca HCa HCol Hma
  rw [hnb] at hlb HCb HCol Hmb
  rw [hna, hnb]
  clear hna hnb
  go_enter Tryd.func32, Tryd.ntmps32
  go_wp2_with fail
  go_loopw [5] (fun iv wr => ∃ i : Nat, iv = .int .i64 i ∧ i ≤ na ∧ i ≤ nb ∧ Hid (∃ j, i ≤ j ∧ j < na ∧ j < nb ∧ a.getD j [] ≠ b.getD j [] ∧ shaF (a.getD j []) = shaF (b.getD j [])) ∧ Hld w wr) (fun iv _ => na - (intOf iv).toNat)
  case atStart => exact ⟨0, rfl, by omega, by omega, Lib.hid (by obtain ⟨j, h1, h2, h3, h4⟩ := HCol.out; exact ⟨j, Nat.zero_le _, h1, h2, h3, h4⟩), Hld.refl w⟩
  case round =>
    obtain ⟨i, rfl, hi1, hi2, Hj, aR⟩ := hrel
    have hlt : i < na ∧ i < nb := by obtain ⟨j, h1, h2, h3, _⟩ := Hj.out; omega
    obtain ⟨hl1, hl2⟩ := hlt
    have c1 := HCa.out wr i aR hl1
    have c2 := HCb.out wr i aR hl2
    have m1 := Hma.out i hl1
    have m2 := Hmb.out i hl2
    have k1 : (i : Int) < (na : Int) := by omega
    have k2 : (i : Int) < (nb : Int) := by omega
    have k3 : (0 : Int) ≤ (i : Int) := by omega
    have k4 : (i : Int) ≤ (ca : Int) := by omega
    have HKw : Hid (∀ w', Hld wr w' → Konst w') := Lib.hid fun w' h => HKn.out w' (aR.step (Hid.out h))
    have HJ2 : Hid (a.getD i [] = b.getD i [] ∨ shaF (a.getD i []) ≠ shaF (b.getD i []) → ∃ j, i + 1 ≤ j ∧ j < na ∧ j < nb ∧ a.getD j [] ≠ b.getD j [] ∧ shaF (a.getD j []) = shaF (b.getD j [])) := Lib.hid (by
      intro h
      obtain ⟨j, h1, h2, h3, h4, h5⟩ := Hj.out
      have hne : j ≠ i := by
        rintro rfl
        rcases h with h | h
        · exact h4 h
        · exact h h5
      exact ⟨j, by omega, h2, h3, h4, h5⟩)
    generalize a.getD i [] = x at *
    generalize b.getD i [] = y at *
    have hkeep : ∀ W', Hld wr W' → Hld wr W' ∧ W'.cell? ⟨ba, i, none⟩ = some (.string ⟨x.toArray⟩) ∧ W'.cell? ⟨bb, i, none⟩ = some (.string ⟨y.toArray⟩) := fun W' h =>
      ⟨h, ((Hid.out h).cell (p := ⟨ba, i, none⟩) (lt_of_cell c1)).trans c1, ((Hid.out h).cell (p := ⟨bb, i, none⟩) (lt_of_cell c2)).trans c2⟩
    by_cases he : x = y
    · subst he
      have HJ3 := Lib.hid (HJ2.out (Or.inl rfl))
      go_wp2_with fail
      go_quiet (fail)
      all_goals
        go_wp2_with fail
        go_roundw
        case rel => exact ⟨i + 1, by go_num, by omega, by omega, HJ3, Lib.hid (below_drewN (Hid.out aR) nq)⟩
        case measure => simp [intOf]; omega
    · have hbe : (x == y) = false := beq_eq_false_iff_ne.2 he
      go_wp2_with fail
      go_region_held3 (fun w' => Hld wr w' ∧ w'.cell? ⟨ba, i, none⟩ = some (.string ⟨x.toArray⟩) ∧ w'.cell? ⟨bb, i, none⟩ = some (.string ⟨y.toArray⟩))
        (first
          | exact hkeep _ (Hld.start _)
          | exact hkeep _ hld4
          | exact hkeep _ hld5)
        (first
          | (go_at_call 12; (with_reducible refine (Sum_calls ⟨x.toArray⟩ _ (HKw.out _ (Hld.start wr)) (by rw [mk_size]; exact Nat.le_trans m1 (by decide))).mono ?_); rintro e w4 ⟨rfl, b4⟩; have hld4 := (Hld.start wr).step b4)
          | (go_at_call 12; (with_reducible refine (Sum_calls ⟨y.toArray⟩ _ (HKw.out _ hld4) (by rw [mk_size]; exact Nat.le_trans m2 (by decide))).mono ?_); rintro e w5 ⟨rfl, b5⟩; have hld5 := hld4.step b5))
      have hend := aR.step (Hid.out hld5)
      go_wp2_with fail
      · go_ret
        exact ⟨rfl, Hid.out hend⟩
      · rename_i hc
        have hsh : shaF x ≠ shaF y := by simpa using hc
        exact ⟨⟨i + 1, by go_num, by omega, by omega, Lib.hid (HJ2.out (Or.inr hsh)), hend⟩, by simp [intOf]; omega⟩
end Go.Proofs.YtinioifhbafngaaDoor
