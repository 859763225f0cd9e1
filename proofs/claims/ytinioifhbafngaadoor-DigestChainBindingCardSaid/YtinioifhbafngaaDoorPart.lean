/- The contract of package digest's Extension: a row of its own with the roots from which those of the beginning and of the whole follow. Conditions: the table of constants reads as the program lays it; at most a million entries of at most 10^9 bytes. -/
import Derived.Test.YtinioifhbafngaaDoorPath
namespace Go.Proofs.YtinioifhbafngaaDoor
open Go.RowKit

theorem RowS.one (w : World) (base : Nat) (hb : base ≤ w.heap.size) (r : Bs) : RowS (w.alloc (.cells #[.string ⟨r.toArray⟩] 9)) base (.slice (some ⟨w.heap.size, 0, none⟩) 1 1) [r] :=
  World.ownsRow_lit w #[.string ⟨r.toArray⟩] 1 hb (by unfold maxLen; omega) rfl

set_option maxRecDepth 100000 in
set_option maxHeartbeats 4000000 in
theorem part_main (n : Nat) : ∀ (l : List Bs) (b o cap i : Nat) (whole : Bool) (w : World), Konst w → l.length ≤ n → l.length ≤ 1000000 → l.length ≤ cap → StrsAt w b o l → (∀ x ∈ l, x.length ≤ 1000000000) → 1 ≤ i → i ≤ l.length →
    Calls Tryd.prog 42 #[.slice (some ⟨b, o, none⟩) l.length cap, .int .i64 (i : Int), .bool whole] w fun e W' => (∃ v, e = .returned v ∧ RowS W' w.heap.size v (partF shaF l i whole)) ∧ Below w.heap.size w W' := by
  obtain ⟨i0, hi, hz0, hz1, hz2⟩ := info_parts (show (Tryd.prog.info? 9).map (fun i => (i.zero, i.size, i.bytes)) = some (some (.string ⟨#[]⟩), 1, 16) from by kernel_rfl)
  induction n with
  | zero => intro l b o cap i whole w _ h1 _ _ _ _ h2 h3; omega
  | succ n ih =>
    intro l b o cap i whole w hK h1 h2 h3 hs hx h4 h6
    have HK := Lib.hid hK
    clear hK
    by_cases h7 : i < l.length
    · have h5 : 2 ≤ l.length := by omega
      have hr := left_range _ h5
      have Hs := Lib.hid hs
      obtain ⟨k, hk⟩ : ∃ k, left l.length = k := ⟨_, rfl⟩
      have hplt := partF_le shaF l i whole h4 h7
      have hpge := partF_gt shaF l i whole h4 h7
      rw [hk] at hr hplt hpge
      have Hk := Lib.hid hk
      have hl1 : (l.take k).length = k := by rw [List.length_take]; omega
      have hl2 : (l.drop k).length = l.length - k := List.length_drop
      have hr1' : ∀ w' : World, Hld w w' → Calls Tryd.prog 26 #[.slice (some ⟨b, o, none⟩) k cap] w' fun e W' => e = .returned (.string ⟨(rootF shaF (l.take k)).toArray⟩) ∧ Below w'.heap.size w' W' := fun w' h => by
        have := Root_calls (l.take k) (some ⟨b, o, none⟩) cap w' (h.konst HK.out) (by omega) (by omega) ((h.strsAt hs).take k).strs (fun x hm => hx x (List.mem_of_mem_take hm))
        rw [hl1] at this
        exact this
      have hr2' : ∀ w' : World, Hld w w' → Calls Tryd.prog 26 #[.slice (some ⟨b, o + k, none⟩) (l.length - k) (cap - k)] w' fun e W' => e = .returned (.string ⟨(rootF shaF (l.drop k)).toArray⟩) ∧ Below w'.heap.size w' W' := fun w' h => by
        have := Root_calls (l.drop k) (some ⟨b, o + k, none⟩) (cap - k) w' (h.konst HK.out) (by omega) (by omega) ((h.strsAt hs).drop k).strs (fun x hm => hx x (List.mem_of_mem_drop hm))
        rw [hl2] at this
        exact this
      by_cases hik : i ≤ k
      · have h1' : ∀ w' : World, Hld w w' → Calls Tryd.prog 42 #[.slice (some ⟨b, o, none⟩) k cap, .int .i64 (i : Int), .bool whole] w' fun e W' => (∃ v, e = .returned v ∧ RowS W' w'.heap.size v (partF shaF (l.take k) i whole)) ∧ Below w'.heap.size w' W' := fun w' h => by
          have := ih (l.take k) b o cap i whole w' (h.konst HK.out) (by omega) (by omega) (by omega) ((h.strsAt hs).take k) (fun x hm => hx x (List.mem_of_mem_take hm)) (by omega) (by omega)
          rw [hl1] at this
          exact this
        have hpl := partF_length shaF (l.take k) i whole 20 (by rw [hl1]; omega) h4 (by rw [hl1]; omega)
        have HE := Lib.hid (hplt hik)
        have H1 := Lib.hid h1'
        have H2 := Lib.hid hr2'
        clear h1' hr1' hr2' hl1 hl2 ih hs hx hk hplt hpge
        generalize partF shaF (l.take k) i whole = p at *
        generalize rootF shaF (l.drop k) = r at *
        generalize partF shaF l i whole = all at *
        generalize l.length = m at *
        obtain ⟨hr1, hr2, hr3⟩ := hr
        have q2 : ((i : Int) == (m : Int)) = false := by rw [beq_eq_false_iff_ne]; omega
        have q3 : (i : Int) ≤ (k : Int) := by omega
        go_enter Tryd.func42, Tryd.ntmps42
        go_wp2_with fail
        refine (firstPart_calls m _ h5 (by omega)).mono ?_
        rw [Hk.out]
        rintro e w' ⟨rfl, rfl⟩
        go_wp2_with fail
        have hc0 : ¬ cap = k := by omega
        have hk1 : (k : Int) ≤ (m : Int) := by omega
        have hk2 : (k : Int) ≤ (cap : Int) := by omega
        have hk3 : (m : Int) ≤ (cap : Int) := by omega
        go_region_held3 (fun w' => Hld w w')
          (first
            | exact Hld.start _
            | exact Hld.step (by assumption) b4
            | exact Hld.step (by assumption) b5
            | exact hld6
            | exact Hld.alloc (by assumption) _)
          (first
            | (go_at_call 42; (with_reducible refine (H1.out _ (by assumption)).mono ?_); rintro e w4 ⟨⟨v4, rfl, hown4⟩, b4⟩)
            | (go_at_call 26; (with_reducible refine (H2.out _ (by assumption)).mono ?_); rintro e w5 ⟨rfl, b5⟩; have hown5 := hown4.below b5)
            | (refine step_append_lies _ (by rfl) _ _ _ (by rfl) _ 9 i0 _ 1 16 Tryd.underlying26 hi hz0 hz1 hz2 rfl (by omega) v4 p.length _ (by rfl) (World.ownsRow.alloc hown5 _)
                ⟨w5.heap.size, 0, none⟩ 1 1 [.string ⟨r.toArray⟩] (by rfl) (by rfl)
                (World.news_of_block (cs := #[.string ⟨r.toArray⟩]) (t := 9) (fr := (0, 0)) (heap_alloc_new w5 _)) (by simp [Value.oneCell'])
                (by omega) (by unfold maxLen; omega) (by omega) (by have h5 := b5.size; have h4 := b4.size; have hd : w.drew.heap.size = w.heap.size := rfl; simp only [World.size_alloc]; omega) (w5.heap.size + 1) (by simp) ?_
               intro gg cap w6 hown6 hgrow hat hlt
               have hld6 : Hld w w6 := Hld.grown (w := w5.alloc _) (by assumption) hgrow (fun q e => (hown5.lt q e).1)))
        all_goals
          go_wp2_with fail
          go_ret
          exact ⟨⟨_, rfl, RowS.snoc HE.out hown6⟩, Hid.out hld6⟩
      · have hie : ((i - k : Nat) : Int) = (i : Int) - (k : Int) := by omega
        have h1' : ∀ w' : World, Hld w w' → Calls Tryd.prog 42 #[.slice (some ⟨b, o + k, none⟩) (l.length - k) (cap - k), .int .i64 ((i : Int) - (k : Int)), .bool false] w' fun e W' => (∃ v, e = .returned v ∧ RowS W' w'.heap.size v (partF shaF (l.drop k) (i - k) false)) ∧ Below w'.heap.size w' W' := fun w' h => by
          have := ih (l.drop k) b (o + k) (cap - k) (i - k) false w' (h.konst HK.out) (by omega) (by omega) (by omega) ((h.strsAt hs).drop k) (fun x hm => hx x (List.mem_of_mem_drop hm)) (by omega) (by omega)
          rw [hl2, hie] at this
          exact this
        have hpl := partF_length shaF (l.drop k) (i - k) false 20 (by rw [hl2]; omega) (by omega) (by rw [hl2]; omega)
        have HE := Lib.hid (hpge hik)
        have H1 := Lib.hid h1'
        have H2 := Lib.hid hr1'
        clear h1' hr1' hr2' hl1 hl2 ih hs hx hk hplt hpge
        generalize partF shaF (l.drop k) (i - k) false = p at *
        generalize rootF shaF (l.take k) = r at *
        generalize partF shaF l i whole = all at *
        generalize l.length = m at *
        obtain ⟨hr1, hr2, hr3⟩ := hr
        have q2 : ((i : Int) == (m : Int)) = false := by rw [beq_eq_false_iff_ne]; omega
        have q3 : (k : Int) < (i : Int) := by omega
        go_enter Tryd.func42, Tryd.ntmps42
        go_wp2_with fail
        refine (firstPart_calls m _ h5 (by omega)).mono ?_
        rw [Hk.out]
        rintro e w' ⟨rfl, rfl⟩
        go_wp2_with fail
        clear hie
        have q4 : IntKind.i64.wrap ((i : Int) - (k : Int)) = (i : Int) - (k : Int) := IntWalk.i64_in _ (by omega)
        have hc0 : ¬ cap = k := by omega
        have hk1 : (k : Int) ≤ (m : Int) := by omega
        have hk2 : (k : Int) ≤ (cap : Int) := by omega
        have hk3 : (m : Int) ≤ (cap : Int) := by omega
        go_region_held3 (fun w' => Hld w w')
          (first
            | exact Hld.start _
            | exact Hld.step (by assumption) b4
            | exact Hld.step (by assumption) b5
            | exact hld6
            | exact Hld.alloc (by assumption) _)
          (first
            | (go_at_call 42; (with_reducible refine (H1.out _ (by assumption)).mono ?_); rintro e w4 ⟨⟨v4, rfl, hown4⟩, b4⟩)
            | (go_at_call 26; (with_reducible refine (H2.out _ (by assumption)).mono ?_); rintro e w5 ⟨rfl, b5⟩; have hown5 := hown4.below b5)
            | (refine step_append_lies _ (by rfl) _ _ _ (by rfl) _ 9 i0 _ 1 16 Tryd.underlying26 hi hz0 hz1 hz2 rfl (by omega) v4 p.length _ (by rfl) (World.ownsRow.alloc hown5 _)
                ⟨w5.heap.size, 0, none⟩ 1 1 [.string ⟨r.toArray⟩] (by rfl) (by rfl)
                (World.news_of_block (cs := #[.string ⟨r.toArray⟩]) (t := 9) (fr := (0, 0)) (heap_alloc_new w5 _)) (by simp [Value.oneCell'])
                (by omega) (by unfold maxLen; omega) (by omega) (by have h5 := b5.size; have h4 := b4.size; have hd : w.drew.heap.size = w.heap.size := rfl; simp only [World.size_alloc]; omega) (w5.heap.size + 1) (by simp) ?_
               intro gg cap w6 hown6 hgrow hat hlt
               have hld6 : Hld w w6 := Hld.grown (w := w5.alloc _) (by assumption) hgrow (fun q e => (hown5.lt q e).1)))
        all_goals
          go_wp2_with fail
          go_ret
          exact ⟨⟨_, rfl, RowS.snoc HE.out hown6⟩, Hid.out hld6⟩
    · have h8 : i = l.length := by omega
      have HR := Lib.hid (Root_calls l (some ⟨b, o, none⟩) cap w HK.out h2 h3 hs.strs hx)
      have HE := Lib.hid (partF_all shaF l i whole h4 h8)
      clear ih hs hx h1 h4 h6 h7
      generalize partF shaF l i whole = all at *
      generalize rootF shaF l = r at *
      generalize l.length = m at *
      subst h8
      cases whole with
      | true =>
        go_enter Tryd.func42, Tryd.ntmps42
        go_wp2_with fail
        go_ret
        exact ⟨⟨_, rfl, by rw [HE.out]; exact RowS.nil _ _⟩, Below.refl _ _⟩
      | false =>
        go_enter Tryd.func42, Tryd.ntmps42
        go_wp2_with fail
        refine HR.out.mono ?_
        rintro e w4 ⟨rfl, b4⟩
        go_wp2_with fail
        go_ret
        exact ⟨⟨_, rfl, by rw [HE.out]; exact RowS.one _ _ b4.size _⟩, b4.alloc b4.size _⟩

/-- Extension within the list. -/
theorem Extension_in (l : List Bs) (A : Option Addr) (cap i : Nat) (w : World) (hK : Konst w) (h2 : l.length ≤ 1000000) (h3 : l.length ≤ cap) (hs : Strs w A l) (hx : ∀ x ∈ l, x.length ≤ 1000000000) (hi : i ≤ l.length) :
    Calls Tryd.prog 23 #[.slice A l.length cap, .int .i64 (i : Int)] w fun e W' => (∃ v, e = .returned (.tuple #[v, .int .i64 0]) ∧ RowS W' w.heap.size v (extF shaF l i)) ∧ Below w.heap.size w W' := by
  by_cases h0 : i = 0
  · subst h0
    have HE := Lib.hid (extF_zero shaF l)
    clear hx hK hs
    generalize extF shaF l 0 = p at *
    generalize l.length = m at *
    go_enter Tryd.func23, Tryd.ntmps23
    go_wp2_with fail
    refine bodyPost_ret (results_tmp2 rfl _ _ _) rfl ?_
    exact ⟨⟨_, rfl, by rw [HE.out]; exact RowS.nil _ _⟩, Below.refl _ _⟩
  · rcases hs with rfl | ⟨b, o, rfl, h⟩
    · simp at hi; exact absurd hi h0
    · have HE := Lib.hid (extF_part shaF l i (by omega))
      have H := Lib.hid (part_main l.length l b o cap i true w hK (Nat.le_refl _) h2 h3 h hx (by omega) hi)
      generalize partF shaF l i true = p at *
      generalize extF shaF l i = all at *
      clear hx hK h
      generalize l.length = m at *
      have q0 : ((i : Int) == 0) = false := by rw [beq_eq_false_iff_ne]; omega
      go_enter Tryd.func23, Tryd.ntmps23
      go_wp2_with fail
      refine H.out.mono ?_
      rintro e w4 ⟨⟨v, rfl, hown⟩, b4⟩
      go_wp2_with fail
      refine bodyPost_ret (results_tmp2 rfl _ _ _) rfl ?_
      exact ⟨⟨_, rfl, by rw [HE.out]; exact hown⟩, b4⟩
/-- Extension beyond the list. -/
theorem Extension_out (m : Nat) (A : Option Addr) (cap : Nat) (i : Int) (w : World) (hi : i < 0 ∨ (m : Int) < i) :
    Calls Tryd.prog 23 #[.slice A m cap, .int .i64 i] w fun e W' => e = .returned (.tuple #[.slice none 0 0, .int .i64 2]) ∧ Below w.heap.size w W' := by
  by_cases h0 : i < 0
  · clear hi
    go_enter Tryd.func23, Tryd.ntmps23
    go_wp2_with fail
    refine bodyPost_ret (results_tmp2 rfl _ _ _) rfl ?_
    exact ⟨rfl, Below.refl _ _⟩
  · have h1 : (m : Int) < i := by omega
    clear hi
    have h2 : 0 ≤ i := by omega
    go_enter Tryd.func23, Tryd.ntmps23
    go_wp2_with fail
    refine bodyPost_ret (results_tmp2 rfl _ _ _) rfl ?_
    exact ⟨rfl, Below.refl _ _⟩
end Go.Proofs.YtinioifhbafngaaDoor
