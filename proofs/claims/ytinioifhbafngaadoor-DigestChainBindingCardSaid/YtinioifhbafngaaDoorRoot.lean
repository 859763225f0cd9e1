/- The contract of package digest's Root: it returns the plain root of the list. Conditions: the table of constants reads as the program lays it; at most a million entries of at most 10^9 bytes. -/
import Derived.Test.YtinioifhbafngaaDoorDig
namespace Go.Proofs.YtinioifhbafngaaDoor
open Go.RowKit

/-- What a walk holds from call to call: nothing that was there has changed. -/
def Hld (w0 w : World) : Prop := Hid (Below w0.heap.size w0 w)
theorem Hld.step {w0 w w' : World} (h : Hld w0 w) (hb : Below w.heap.size w w') : Hld w0 w' := Lib.hid ((Hid.out h).trans (hb.mono (Hid.out h).size))
theorem Hld.start (w : World) : Hld w w.drew := Lib.hid (Below.refl _ _).drew
theorem Hld.refl (w : World) : Hld w w := Lib.hid (Below.refl _ _)
theorem Hld.konst {w0 w : World} (h : Hld w0 w) (hK : Konst w0) : Konst w := hK.keep (Hid.out h)
theorem Hld.strsAt {w0 w : World} (h : Hld w0 w) {b o : Nat} {l : List Bs} (hs : StrsAt w0 b o l) : StrsAt w b o l := hs.keep (Hid.out h)
theorem Hld.strs {w0 w : World} (h : Hld w0 w) {A : Option Addr} {l : List Bs} (hs : Strs w0 A l) : Strs w A l := hs.keep (Hid.out h)
theorem StrsAt.strs {w : World} {b o : Nat} {l : List Bs} (h : StrsAt w b o l) : Strs w (some ⟨b, o, none⟩) l := Or.inr ⟨b, o, rfl, h⟩

set_option maxRecDepth 100000 in
set_option maxHeartbeats 4000000 in
theorem root_main (n : Nat) : ∀ (l : List Bs) (b o cap : Nat) (w : World), Konst w → l.length ≤ n → l.length ≤ 1000000 → l.length ≤ cap → StrsAt w b o l → (∀ x ∈ l, x.length ≤ 1000000000) → 1 ≤ l.length →
    Calls Tryd.prog 26 #[.slice (some ⟨b, o, none⟩) l.length cap] w fun e W' => e = .returned (.string ⟨(rootF shaF l).toArray⟩) ∧ Below w.heap.size w W' := by
  induction n with
  | zero => intro l b o cap w _ h1 _ _ _ _ h2; omega
  | succ n ih =>
    intro l b o cap w hK h1 h2 h3 hs hx h4
    have HK := Lib.hid hK
    clear hK
    by_cases h5 : 2 ≤ l.length
    · have hr := left_range _ h5
      have HE := Lib.hid (root_two shaF l h5)
      have Hs := Lib.hid hs
      obtain ⟨k, hk⟩ : ∃ k, left l.length = k := ⟨_, rfl⟩
      rw [hk] at hr HE
      have Hk := Lib.hid hk
      have hl1 : (l.take k).length = k := by rw [List.length_take]; omega
      have hl2 : (l.drop k).length = l.length - k := List.length_drop
      have h1' : ∀ w' : World, Hld w w' → Calls Tryd.prog 26 #[.slice (some ⟨b, o, none⟩) k cap] w' fun e W' => e = .returned (.string ⟨(rootF shaF (l.take k)).toArray⟩) ∧ Below w'.heap.size w' W' := fun w' h => by
        have := ih (l.take k) b o cap w' (h.konst HK.out) (by omega) (by omega) (by omega) ((h.strsAt hs).take k) (fun x hm => hx x (List.mem_of_mem_take hm)) (by omega)
        rw [hl1] at this
        exact this
      have h2' : ∀ w' : World, Hld w w' → Calls Tryd.prog 26 #[.slice (some ⟨b, o + k, none⟩) (l.length - k) (cap - k)] w' fun e W' => e = .returned (.string ⟨(rootF shaF (l.drop k)).toArray⟩) ∧ Below w'.heap.size w' W' := fun w' h => by
        have := ih (l.drop k) b (o + k) (cap - k) w' (h.konst HK.out) (by omega) (by omega) (by omega) ((h.strsAt hs).drop k) (fun x hm => hx x (List.mem_of_mem_drop hm)) (by omega)
        rw [hl2] at this
        exact this
      have H1 := Lib.hid h1'
      have H2 := Lib.hid h2'
      have HR1 := Lib.hid (root_length (l.take k))
      have HR2 := Lib.hid (root_length (l.drop k))
      clear h1' h2' hl1 hl2
      clear ih hs hx hk
      generalize l.length = m at *
      obtain ⟨hr1, hr2, hr3⟩ := hr
      have q1 : ((m : Int) == 0) = false := by rw [beq_eq_false_iff_ne]; omega
      have q2 : ((m : Int) == 1) = false := by rw [beq_eq_false_iff_ne]; omega
      go_enter Tryd.func26, Tryd.ntmps26
      go_wp2_with fail
      refine (firstPart_calls m _ h5 (by omega)).mono ?_
      rw [Hk.out]
      rintro e w' ⟨rfl, rfl⟩
      go_wp2_with fail
      have hc0 : ¬ cap = k := by omega
      have hk1 : (k : Int) ≤ (m : Int) := by omega
      have hk2 : (k : Int) ≤ (cap : Int) := by omega
      have hk3 : (m : Int) ≤ (cap : Int) := by omega
      go_region_held3 (fun w' => Hld w w')
        (first
          | exact Hld.start _
          | exact Hld.step (by assumption) b4)
        (first
          | (go_at_call 26; (with_reducible refine (H1.out _ (by assumption)).mono ?_); rintro e w4 ⟨rfl, b4⟩)
          | (go_at_call 26; (with_reducible refine (H2.out _ (by assumption)).mono ?_); rintro e w4 ⟨rfl, b4⟩)
          | (go_at_call 16; (with_reducible refine (Node_calls _ _ _ (Hld.konst (by assumption) HK.out) (by rw [mk_size, HR1.out]; omega) (by rw [mk_size, HR2.out]; omega)).mono ?_); rintro e w4 ⟨rfl, b4⟩))
      go_wp2_with fail
      go_ret
      have hend : Hld w w4 := by assumption
      exact ⟨by rw [HE.out]; rfl, Hid.out hend⟩
    · obtain ⟨x, rfl⟩ : ∃ x, l = [x] := by
        match l, h4, h5 with
        | [x], _, _ => exact ⟨x, rfl⟩
        | _ :: _ :: _, _, h5 => exact absurd (by simp) h5
      have hc : w.cell? ⟨b, o, none⟩ = some (.string ⟨x.toArray⟩) := hs 0 (show 0 < 1 by decide)
      have hxl := Lib.hid (hx x (by simp))
      clear ih hs hx h1 h2 h4 h5
      show Calls _ _ #[.slice (some ⟨b, o, none⟩) 1 cap] _ _
      go_enter Tryd.func26, Tryd.ntmps26
      go_wp2_with fail
      refine (Leaf_calls _ _ HK.out (by rw [mk_size]; have := hxl.out; omega)).mono ?_
      rintro e w4 ⟨rfl, b4⟩
      go_wp2_with fail
      go_ret
      exact ⟨rfl, b4⟩

theorem root_empty (A : Option Addr) (cap : Nat) (w : World) (hK : Konst w) :
    Calls Tryd.prog 26 #[.slice A 0 cap] w fun e W' => e = .returned (.string ⟨(rootF shaF []).toArray⟩) ∧ Below w.heap.size w W' := by
  have HK := Lib.hid hK
  clear hK
  go_enter Tryd.func26, Tryd.ntmps26
  go_wp2_with fail
  refine (Sum_calls _ _ HK.out (by decide)).mono ?_
  rintro e w4 ⟨rfl, b4⟩
  go_wp2_with fail
  go_ret
  exact ⟨rfl, b4⟩

theorem Root_calls (l : List Bs) (A : Option Addr) (cap : Nat) (w : World) (hK : Konst w) (h2 : l.length ≤ 1000000) (h3 : l.length ≤ cap) (hs : Strs w A l) (hx : ∀ x ∈ l, x.length ≤ 1000000000) :
    Calls Tryd.prog 26 #[.slice A l.length cap] w fun e W' => e = .returned (.string ⟨(rootF shaF l).toArray⟩) ∧ Below w.heap.size w W' := by
  rcases hs with rfl | ⟨b, o, rfl, h⟩
  · exact root_empty A cap w hK
  · by_cases h0 : l = []
    · subst h0; exact root_empty _ cap w hK
    · exact root_main l.length l b o cap w hK (Nat.le_refl _) h2 h3 h hx (List.length_pos_iff.2 h0)
end Go.Proofs.YtinioifhbafngaaDoor
