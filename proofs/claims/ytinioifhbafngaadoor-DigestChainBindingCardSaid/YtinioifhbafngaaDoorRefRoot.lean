/- The contract of the reference implementation's Root: it returns the plain root of the list. Condition: each entry has at most 400,000 bytes. -/
import Derived.Test.YtinioifhbafngaaDoorRefNode
namespace Go.Proofs.YtinioifhbafngaaDoor
open Go.RowKit

/-- A slice of strings, as a walk reads it. -/
def Strs (w : World) (A : Option Addr) (l : List Bs) : Prop :=
  l = [] ∨ ∃ b o, A = some ⟨b, o, none⟩ ∧ ∀ i, i < l.length → w.cell? ⟨b, o + i, none⟩ = some (.string ⟨(l.getD i []).toArray⟩)
theorem Strs.keep {w w' : World} {A : Option Addr} {l : List Bs} (h : Strs w A l) (hb : Below w.heap.size w w') : Strs w' A l := by
  rcases h with h | ⟨b, o, rfl, h⟩
  · exact Or.inl h
  · exact Or.inr ⟨b, o, rfl, fun i hi => (hb.cell (p := ⟨b, o + i, none⟩) (lt_of_cell (h i hi))).trans (h i hi)⟩
def StrsAt (w : World) (b o : Nat) (l : List Bs) : Prop := ∀ i, i < l.length → w.cell? ⟨b, o + i, none⟩ = some (.string ⟨(l.getD i []).toArray⟩)
theorem StrsAt.keep {w w' : World} {b o : Nat} {l : List Bs} (h : StrsAt w b o l) (hb : Below w.heap.size w w') : StrsAt w' b o l := fun i hi =>
  (hb.cell (p := ⟨b, o + i, none⟩) (lt_of_cell (h i hi))).trans (h i hi)
theorem StrsAt.take {w : World} {b o : Nat} {l : List Bs} (h : StrsAt w b o l) (k : Nat) : StrsAt w b o (l.take k) := fun i hi => by
  have hi2 : i < k ∧ i < l.length := by rw [List.length_take] at hi; omega
  rw [h i hi2.2]
  simp only [List.getD_eq_getElem?_getD, List.getElem?_take, if_pos hi2.1]
theorem StrsAt.drop {w : World} {b o : Nat} {l : List Bs} (h : StrsAt w b o l) (k : Nat) : StrsAt w b (o + k) (l.drop k) := fun i hi => by
  rw [List.length_drop] at hi
  rw [Nat.add_assoc, h (k + i) (by omega)]
  simp only [List.getD_eq_getElem?_getD, List.getElem?_drop]

theorem root_length (l : List Bs) : (rootF shaF l).length = 32 := by
  by_cases h : 2 ≤ l.length
  · rw [root_two shaF l h]; exact shaF_length _
  · match l, h with
    | [], _ => exact shaF_length _
    | [_], _ => exact shaF_length _
    | _ :: _ :: _, h => exact absurd (by simp) h
/-- What a walk holds from call to call: a slice of strings reads as before, and nothing that was there has changed. -/
def Holds (w0 : World) (b o : Nat) (l : List Bs) (w : World) : Prop := Hid (StrsAt w b o l ∧ Below w0.heap.size w0 w)
theorem Holds.step {w0 w w' : World} {b o : Nat} {l : List Bs} (h : Holds w0 b o l w) (hb : Below w.heap.size w w') : Holds w0 b o l w' :=
  Lib.hid ⟨(Hid.out h).1.keep hb, (Hid.out h).2.trans (hb.mono (Hid.out h).2.size)⟩
theorem Holds.start {w : World} {b o : Nat} {l : List Bs} (h : StrsAt w b o l) : Holds w b o l w.drew := Lib.hid ⟨h, (Below.refl _ _).drew⟩
theorem mk_size (l : List UInt8) : (⟨l.toArray⟩ : ByteArray).size = l.length := rfl

set_option maxRecDepth 100000 in
set_option maxHeartbeats 4000000 in
theorem refRoot_main (n : Nat) : ∀ (l : List Bs) (b o cap : Nat) (w : World), l.length ≤ n → l.length ≤ 1000000 → l.length ≤ cap → StrsAt w b o l → (∀ x ∈ l, x.length ≤ 400000) → 1 ≤ l.length →
    Calls Tryd.prog 27 #[.slice (some ⟨b, o, none⟩) l.length cap] w fun e W' => e = .returned (.string ⟨(rootF shaF l).toArray⟩) ∧ Below w.heap.size w W' := by
  induction n with
  | zero => intro l b o cap w h1 _ _ _ _ h2; omega
  | succ n ih =>
    intro l b o cap w h1 h2 h3 hs hx h4
    by_cases h5 : 2 ≤ l.length
    · have hr := left_range _ h5
      have HE := Lib.hid (root_two shaF l h5)
      have Hs := Lib.hid hs
      obtain ⟨k, hk⟩ : ∃ k, left l.length = k := ⟨_, rfl⟩
      rw [hk] at hr HE
      have Hk := Lib.hid hk
      have hl1 : (l.take k).length = k := by rw [List.length_take]; omega
      have hl2 : (l.drop k).length = l.length - k := List.length_drop
      have h1' : ∀ w' : World, Holds w b o l w' → Calls Tryd.prog 27 #[.slice (some ⟨b, o, none⟩) k cap] w' fun e W' => e = .returned (.string ⟨(rootF shaF (l.take k)).toArray⟩) ∧ Below w'.heap.size w' W' := fun w' h => by
        have := ih (l.take k) b o cap w' (by omega) (by omega) (by omega) ((Hid.out h).1.take k) (fun x hm => hx x (List.mem_of_mem_take hm)) (by omega)
        rw [hl1] at this
        exact this
      have h2' : ∀ w' : World, Holds w b o l w' → Calls Tryd.prog 27 #[.slice (some ⟨b, o + k, none⟩) (l.length - k) (cap - k)] w' fun e W' => e = .returned (.string ⟨(rootF shaF (l.drop k)).toArray⟩) ∧ Below w'.heap.size w' W' := fun w' h => by
        have := ih (l.drop k) b (o + k) (cap - k) w' (by omega) (by omega) (by omega) ((Hid.out h).1.drop k) (fun x hm => hx x (List.mem_of_mem_drop hm)) (by omega)
        rw [hl2] at this
        exact this
      have H1 := Lib.hid h1'
      have H2 := Lib.hid h2'
      have HR1 := Lib.hid (root_length (l.take k))
      have HR2 := Lib.hid (root_length (l.drop k))
      clear h1' h2' hl1 hl2
      clear ih hs hx hk
      generalize l.length = m at *
      obtain ⟨hr1, hr2, hr3⟩ := hr
      have q1 : ((m : Int) == 0) = false := by rw [beq_eq_false_iff_ne]; omega
      have q2 : ((m : Int) == 1) = false := by rw [beq_eq_false_iff_ne]; omega
      go_enter Tryd.func27, Tryd.ntmps27
      go_wp2_with fail
      refine (Left_calls m _ h5 (by omega)).mono ?_
      rw [Hk.out]
      rintro e w' ⟨rfl, rfl⟩
      go_wp2_with fail
      have hc0 : ¬ cap = k := by omega
      have hk1 : (k : Int) ≤ (m : Int) := by omega
      have hk2 : (k : Int) ≤ (cap : Int) := by omega
      have hk3 : (m : Int) ≤ (cap : Int) := by omega
      go_region_held3 (fun w' => Holds w b o l w')
        (first
          | exact Holds.start Hs.out
          | exact Holds.step (by assumption) b4)
        (first
          | (go_at_call 27; (with_reducible refine (H1.out _ (by assumption)).mono ?_); rintro e w4 ⟨rfl, b4⟩)
          | (go_at_call 27; (with_reducible refine (H2.out _ (by assumption)).mono ?_); rintro e w4 ⟨rfl, b4⟩)
          | (go_at_call 17; (with_reducible refine (refNode_calls _ _ _ (by rw [mk_size, mk_size, HR1.out, HR2.out]; omega)).mono ?_); rintro e w4 ⟨rfl, b4⟩))
      go_wp2_with fail
      go_ret
      have hend : Holds w b o l w4 := by assumption
      exact ⟨by rw [HE.out]; rfl, (Hid.out hend).2⟩
    · obtain ⟨x, rfl⟩ : ∃ x, l = [x] := by
        match l, h4, h5 with
        | [x], _, _ => exact ⟨x, rfl⟩
        | _ :: _ :: _, _, h5 => exact absurd (by simp) h5
      have hc : w.cell? ⟨b, o, none⟩ = some (.string ⟨x.toArray⟩) := hs 0 (show 0 < 1 by decide)
      have hxl := Lib.hid (hx x (by simp))
      clear ih hs hx h1 h2 h4 h5
      show Calls _ _ #[.slice (some ⟨b, o, none⟩) 1 cap] _ _
      go_enter Tryd.func27, Tryd.ntmps27
      go_wp2_with fail
      refine (refLeaf_calls _ _ (by rw [mk_size]; have := hxl.out; omega)).mono ?_
      rintro e w4 ⟨rfl, b4⟩
      go_wp2_with fail
      go_ret
      exact ⟨rfl, b4⟩

theorem refRoot_nil (A : Option Addr) (cap : Nat) (w : World) :
    Calls Tryd.prog 27 #[.slice A 0 cap] w fun e W' => e = .returned (.string ⟨(rootF shaF []).toArray⟩) ∧ Below w.heap.size w W' := by
  go_enter Tryd.func27, Tryd.ntmps27
  go_wp2_with fail
  refine (refSum_calls _ _ (by decide)).mono ?_
  rintro e w4 ⟨rfl, b4⟩
  go_wp2_with fail
  go_ret
  exact ⟨rfl, b4⟩

theorem refRoot_calls (l : List Bs) (A : Option Addr) (cap : Nat) (w : World) (h2 : l.length ≤ 1000000) (h3 : l.length ≤ cap) (hs : Strs w A l) (hx : ∀ x ∈ l, x.length ≤ 400000) :
    Calls Tryd.prog 27 #[.slice A l.length cap] w fun e W' => e = .returned (.string ⟨(rootF shaF l).toArray⟩) ∧ Below w.heap.size w W' := by
  rcases hs with rfl | ⟨b, o, rfl, h⟩
  · exact refRoot_nil A cap w
  · by_cases h0 : l = []
    · subst h0; exact refRoot_nil _ cap w
    · exact refRoot_main l.length l b o cap w (Nat.le_refl _) h2 h3 h hx (List.length_pos_iff.2 h0)
end Go.Proofs.YtinioifhbafngaaDoor
