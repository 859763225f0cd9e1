/- The contract of the reference implementation's Proof: a row of its own with the roots beside the way. Condition: at most a million entries of at most 400,000 bytes. -/
import Derived.Test.YtinioifhbafngaaDoorPath
namespace Go.Proofs.YtinioifhbafngaaDoor
open Go.RowKit

set_option maxRecDepth 100000 in
set_option maxHeartbeats 4000000 in
theorem refProof_main (n : Nat) : ∀ (l : List Bs) (b o cap i : Nat) (w : World), l.length ≤ n → l.length ≤ 1000000 → l.length ≤ cap → StrsAt w b o l → (∀ x ∈ l, x.length ≤ 400000) → i < l.length →
    Calls Tryd.prog 22 #[.slice (some ⟨b, o, none⟩) l.length cap, .int .i64 (i : Int)] w fun e W' => (∃ v, e = .returned (.tuple #[v, .int .i64 0]) ∧ RowS W' w.heap.size v (proofF shaF l i)) ∧ Below w.heap.size w W' := by
  obtain ⟨i0, hi, hz0, hz1, hz2⟩ := info_parts (show (Tryd.prog.info? 9).map (fun i => (i.zero, i.size, i.bytes)) = some (some (.string ⟨#[]⟩), 1, 16) from by kernel_rfl)
  induction n with
  | zero => intro l b o cap i w h1 _ _ _ _ h2; omega
  | succ n ih =>
    intro l b o cap i w h1 h2 h3 hs hx h4
    by_cases h5 : 2 ≤ l.length
    · have hr := left_range _ h5
      have Hs := Lib.hid hs
      obtain ⟨k, hk⟩ : ∃ k, left l.length = k := ⟨_, rfl⟩
      have hplt := proofF_lt shaF l i h5
      have hpge := proofF_ge shaF l i h5
      rw [hk] at hr hplt hpge
      have Hk := Lib.hid hk
      have hl1 : (l.take k).length = k := by rw [List.length_take]; omega
      have hl2 : (l.drop k).length = l.length - k := List.length_drop
      have hr1' : ∀ w' : World, Hld w w' → Calls Tryd.prog 27 #[.slice (some ⟨b, o, none⟩) k cap] w' fun e W' => e = .returned (.string ⟨(rootF shaF (l.take k)).toArray⟩) ∧ Below w'.heap.size w' W' := fun w' h => by
        have := refRoot_calls (l.take k) (some ⟨b, o, none⟩) cap w' (by omega) (by omega) ((h.strsAt hs).take k).strs (fun x hm => hx x (List.mem_of_mem_take hm))
        rw [hl1] at this
        exact this
      have hr2' : ∀ w' : World, Hld w w' → Calls Tryd.prog 27 #[.slice (some ⟨b, o + k, none⟩) (l.length - k) (cap - k)] w' fun e W' => e = .returned (.string ⟨(rootF shaF (l.drop k)).toArray⟩) ∧ Below w'.heap.size w' W' := fun w' h => by
        have := refRoot_calls (l.drop k) (some ⟨b, o + k, none⟩) (cap - k) w' (by omega) (by omega) ((h.strsAt hs).drop k).strs (fun x hm => hx x (List.mem_of_mem_drop hm))
        rw [hl2] at this
        exact this
      by_cases hik : i < k
      · have h1' : ∀ w' : World, Hld w w' → Calls Tryd.prog 22 #[.slice (some ⟨b, o, none⟩) k cap, .int .i64 (i : Int)] w' fun e W' => (∃ v, e = .returned (.tuple #[v, .int .i64 0]) ∧ RowS W' w'.heap.size v (proofF shaF (l.take k) i)) ∧ Below w'.heap.size w' W' := fun w' h => by
          have := ih (l.take k) b o cap i w' (by omega) (by omega) (by omega) ((h.strsAt hs).take k) (fun x hm => hx x (List.mem_of_mem_take hm)) (by omega)
          rw [hl1] at this
          exact this
        have hpl := proofF_length shaF (l.take k) i 20 (by rw [hl1]; omega)
        have HE := Lib.hid (hplt hik)
        have H1 := Lib.hid h1'
        have H2 := Lib.hid hr2'
        clear h1' hr1' hr2' hl1 hl2 ih hs hx hk hplt hpge
        generalize proofF shaF (l.take k) i = p at *
        generalize rootF shaF (l.drop k) = r at *
        generalize proofF shaF l i = all at *
        generalize l.length = m at *
        obtain ⟨hr1, hr2, hr3⟩ := hr
        have q2 : ((m : Int) == 1) = false := by rw [beq_eq_false_iff_ne]; omega
        have q3 : (i : Int) < (k : Int) := by omega
        have q5 : (i : Int) < (m : Int) := by omega
        go_enter Tryd.func22, Tryd.ntmps22
        go_wp2_with fail
        refine (Left_calls m _ h5 (by omega)).mono ?_
        rw [Hk.out]
        rintro e w' ⟨rfl, rfl⟩
        go_wp2_with fail
        have hc0 : ¬ cap = k := by omega
        have hk1 : (k : Int) ≤ (m : Int) := by omega
        have hk2 : (k : Int) ≤ (cap : Int) := by omega
        have hk3 : (m : Int) ≤ (cap : Int) := by omega
        refine (H1.out _ (Hld.refl w)).mono ?_
        rintro e w4 ⟨⟨v4, rfl, hown4⟩, b4⟩
        have hld4 := (Hld.refl w).step b4
        go_wp2_with fail
        refine (H2.out _ hld4).mono ?_
        rintro e w5 ⟨rfl, b5⟩
        have hown5 := hown4.below b5
        have hld5 := hld4.step b5
        go_wp2_with (at_builtin; refine wpList_append_own _ rfl _ _ 26 rfl w.heap.size 9 i0 (.string ⟨#[]⟩) 1 16 Tryd.underlying26 hi hz0 hz1 hz2 rfl (by decide) _ _ _ rfl (World.ownsRow.alloc hown5 _) ⟨w5.heap.size, 0, none⟩ 1 1 [.string ⟨r.toArray⟩] rfl rfl ?c1 ?c2 ?c3 ?c4 ?c5 ?_)
        case c1 => exact cell_one_new _ _ _
        case c2 => simp [Value.oneCell']
        case c3 => unfold maxLen; omega
        case c4 => omega
        case c5 => have h5 := b5.size; have h4 := b4.size; simp only [World.size_alloc]; omega
        intro v' w6 hown6 hgrow _
        have hld6 : Hld w w6 := Hld.grown (w := w5.alloc _) (hld5.alloc _) hgrow (fun q e => (hown5.lt q e).1)
        go_wp2_with fail
        refine bodyPost_ret (results_tmp2 rfl _ _ _) rfl ?_
        exact ⟨⟨_, rfl, RowS.snoc HE.out hown6⟩, Hid.out hld6⟩
      · have hie : ((i - k : Nat) : Int) = (i : Int) - (k : Int) := by omega
        have h1' : ∀ w' : World, Hld w w' → Calls Tryd.prog 22 #[.slice (some ⟨b, o + k, none⟩) (l.length - k) (cap - k), .int .i64 ((i : Int) - (k : Int))] w' fun e W' => (∃ v, e = .returned (.tuple #[v, .int .i64 0]) ∧ RowS W' w'.heap.size v (proofF shaF (l.drop k) (i - k))) ∧ Below w'.heap.size w' W' := fun w' h => by
          have := ih (l.drop k) b (o + k) (cap - k) (i - k) w' (by omega) (by omega) (by omega) ((h.strsAt hs).drop k) (fun x hm => hx x (List.mem_of_mem_drop hm)) (by omega)
          rw [hl2, hie] at this
          exact this
        have hpl := proofF_length shaF (l.drop k) (i - k) 20 (by rw [hl2]; omega)
        have HE := Lib.hid (hpge hik)
        have H1 := Lib.hid h1'
        have H2 := Lib.hid hr1'
        clear h1' hr1' hr2' hl1 hl2 ih hs hx hk hplt hpge
        generalize proofF shaF (l.drop k) (i - k) = p at *
        generalize rootF shaF (l.take k) = r at *
        generalize proofF shaF l i = all at *
        generalize l.length = m at *
        obtain ⟨hr1, hr2, hr3⟩ := hr
        have q2 : ((m : Int) == 1) = false := by rw [beq_eq_false_iff_ne]; omega
        have q3 : (k : Int) ≤ (i : Int) := by omega
        have q5 : (i : Int) < (m : Int) := by omega
        go_enter Tryd.func22, Tryd.ntmps22
        go_wp2_with fail
        refine (Left_calls m _ h5 (by omega)).mono ?_
        rw [Hk.out]
        rintro e w' ⟨rfl, rfl⟩
        go_wp2_with fail
        clear hie
        have q4 : IntKind.i64.wrap ((i : Int) - (k : Int)) = (i : Int) - (k : Int) := IntWalk.i64_in _ (by omega)
        have hc0 : ¬ cap = k := by omega
        have hk1 : (k : Int) ≤ (m : Int) := by omega
        have hk2 : (k : Int) ≤ (cap : Int) := by omega
        have hk3 : (m : Int) ≤ (cap : Int) := by omega
        refine (H1.out _ (Hld.refl w)).mono ?_
        rintro e w4 ⟨⟨v4, rfl, hown4⟩, b4⟩
        have hld4 := (Hld.refl w).step b4
        go_wp2_with fail
        refine (H2.out _ hld4).mono ?_
        rintro e w5 ⟨rfl, b5⟩
        have hown5 := hown4.below b5
        have hld5 := hld4.step b5
        go_wp2_with (at_builtin; refine wpList_append_own _ rfl _ _ 26 rfl w.heap.size 9 i0 (.string ⟨#[]⟩) 1 16 Tryd.underlying26 hi hz0 hz1 hz2 rfl (by decide) _ _ _ rfl (World.ownsRow.alloc hown5 _) ⟨w5.heap.size, 0, none⟩ 1 1 [.string ⟨r.toArray⟩] rfl rfl ?c1 ?c2 ?c3 ?c4 ?c5 ?_)
        case c1 => exact cell_one_new _ _ _
        case c2 => simp [Value.oneCell']
        case c3 => unfold maxLen; omega
        case c4 => omega
        case c5 => have h5 := b5.size; have h4 := b4.size; simp only [World.size_alloc]; omega
        intro v' w6 hown6 hgrow _
        have hld6 : Hld w w6 := Hld.grown (w := w5.alloc _) (hld5.alloc _) hgrow (fun q e => (hown5.lt q e).1)
        go_wp2_with fail
        refine bodyPost_ret (results_tmp2 rfl _ _ _) rfl ?_
        exact ⟨⟨_, rfl, RowS.snoc HE.out hown6⟩, Hid.out hld6⟩
    · obtain ⟨x, rfl⟩ : ∃ x, l = [x] := by
        match l, h4, h5 with
        | [x], _, _ => exact ⟨x, rfl⟩
        | _ :: _ :: _, _, h5 => exact absurd (by simp) h5
      have HE := Lib.hid (proofF_one shaF [x] i (Nat.le_refl _))
      obtain rfl : i = 0 := by simpa using h4
      clear ih hs hx h1 h2 h4 h5
      show Calls _ _ #[.slice (some ⟨b, o, none⟩) 1 cap, _] _ _
      go_enter Tryd.func22, Tryd.ntmps22
      go_wp2_with fail
      refine bodyPost_ret (results_tmp2 rfl _ _ _) rfl ?_
      exact ⟨⟨_, rfl, by rw [HE.out]; exact RowS.nil _ _⟩, Below.refl _ _⟩

/-- Proof within the list. -/
theorem refProof_in (l : List Bs) (A : Option Addr) (cap i : Nat) (w : World) (h2 : l.length ≤ 1000000) (h3 : l.length ≤ cap) (hs : Strs w A l) (hx : ∀ x ∈ l, x.length ≤ 400000) (hi : i < l.length) :
    Calls Tryd.prog 22 #[.slice A l.length cap, .int .i64 (i : Int)] w fun e W' => (∃ v, e = .returned (.tuple #[v, .int .i64 0]) ∧ RowS W' w.heap.size v (proofF shaF l i)) ∧ Below w.heap.size w W' := by
  rcases hs with rfl | ⟨b, o, rfl, h⟩
  · simp at hi
  · exact refProof_main l.length l b o cap i w (Nat.le_refl _) h2 h3 h hx hi
/-- Proof beyond the list. -/
theorem refProof_out (m : Nat) (A : Option Addr) (cap : Nat) (i : Int) (w : World) (hi : i < 0 ∨ (m : Int) ≤ i) :
    Calls Tryd.prog 22 #[.slice A m cap, .int .i64 i] w fun e W' => e = .returned (.tuple #[.slice none 0 0, .int .i64 2]) ∧ Below w.heap.size w W' := by
  by_cases h0 : i < 0
  · clear hi
    go_enter Tryd.func22, Tryd.ntmps22
    go_wp2_with fail
    refine bodyPost_ret (results_tmp2 rfl _ _ _) rfl ?_
    exact ⟨rfl, Below.refl _ _⟩
  · have h1 : (m : Int) ≤ i := by omega
    clear hi
    have h2 : 0 ≤ i := by omega
    go_enter Tryd.func22, Tryd.ntmps22
    go_wp2_with fail
    refine bodyPost_ret (results_tmp2 rfl _ _ _) rfl ?_
    exact ⟨rfl, Below.refl _ _⟩
end Go.Proofs.YtinioifhbafngaaDoor
