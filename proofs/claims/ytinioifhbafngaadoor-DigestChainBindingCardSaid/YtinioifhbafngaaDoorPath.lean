/- The contract of package digest's Proof: a row of its own with the roots beside the way. Conditions: the table of constants reads as the program lays it; at most a million entries of at most 10^9 bytes. -/
import Derived.Test.YtinioifhbafngaaDoorRoot
import Derived.Test.YtinioifhbafngaaDoorTreeB
namespace Go.Proofs.YtinioifhbafngaaDoor
open Go.RowKit

/-- A row of strings of one's own. -/
def RowS (w : World) (base : Nat) (v : Value) (l : List Bs) : Prop := w.ownsRow base 9 1 v l.length (cellsS l)
theorem RowS.nil (w : World) (base : Nat) : RowS w base (.slice none 0 0) [] := World.ownsRow_nil _ _ _ _
theorem RowS.below {w w' : World} {base : Nat} {v : Value} {l : List Bs} (h : RowS w base v l) (hb : Below w.heap.size w w') : RowS w' base v l := by
  obtain ⟨h1, h2⟩ := h
  refine ⟨h1, ?_⟩
  rcases h2 with h | ⟨g, cap, cur, hv, hb2, hg, rest⟩
  · exact Or.inl h
  · exact Or.inr ⟨_, _, _, hv, hb2, (hb.block _ (Array.getElem?_eq_some_iff.1 hg).1).trans hg, rest⟩
theorem RowS.snoc {w : World} {base : Nat} {v : Value} {l p : List Bs} {r : Bs} (e : l = p ++ [r]) (h : w.ownsRow base 9 1 v (p.length + 1) (cellsS p ++ [.string ⟨r.toArray⟩])) : RowS w base v l := by
  subst e
  unfold RowS
  rw [cellsS_snoc, List.length_append]
  exact h
/-- How a row reads. -/
theorem RowS.slice {w : World} {base : Nat} {v : Value} {l : List Bs} (h : RowS w base v l) : ∃ A cap, v = .slice A l.length cap ∧ l.length ≤ cap ∧ Strs w A l := by
  have h0 := h
  obtain ⟨h1, h2⟩ := h
  rcases h2 with ⟨rfl, h⟩ | ⟨g, cap, cur, rfl, hb2, hg, hc, rest⟩
  · have : l = [] := List.length_eq_zero_iff.1 h
    subst this
    exact ⟨none, 0, rfl, Nat.le_refl _, Or.inl rfl⟩
  · refine ⟨_, cap, rfl, hc, Or.inr ⟨g, 0, rfl, fun i hi => ?_⟩⟩
    have hcell : (cellsS l)[i]? = some (.string ⟨(l.getD i []).toArray⟩) := by
      unfold cellsS
      rw [List.getElem?_map, List.getElem?_eq_getElem hi, List.getD_eq_getElem?_getD, List.getElem?_eq_getElem hi]
      rfl
    rw [Nat.zero_add, h0.cellAt i (by omega), hcell]
theorem Hld.alloc {w0 w : World} (h : Hld w0 w) (o : Obj) : Hld w0 (w.alloc o) := Lib.hid ((Hid.out h).alloc (Hid.out h).size o)
theorem Hld.grown {w0 w w' : World} {row : Option Nat} (h : Hld w0 w) (hg : w.grownBy w' row) (hr : ∀ k, row = some k → w0.heap.size ≤ k) : Hld w0 w' := Lib.hid ((Hid.out h).grown hg (Hid.out h).size hr)
theorem Hld.size {w0 w : World} (h : Hld w0 w) : w0.heap.size ≤ w.heap.size := (Hid.out h).size

set_option maxRecDepth 100000 in
set_option maxHeartbeats 4000000 in
theorem path_main (n : Nat) : ∀ (l : List Bs) (b o cap i : Nat) (w : World), Konst w → l.length ≤ n → l.length ≤ 1000000 → l.length ≤ cap → StrsAt w b o l → (∀ x ∈ l, x.length ≤ 1000000000) → i < l.length →
    Calls Tryd.prog 40 #[.slice (some ⟨b, o, none⟩) l.length cap, .int .i64 (i : Int)] w fun e W' => (∃ v, e = .returned v ∧ RowS W' w.heap.size v (proofF shaF l i)) ∧ Below w.heap.size w W' := by
  obtain ⟨i0, hi, hz0, hz1, hz2⟩ := info_parts (show (Tryd.prog.info? 9).map (fun i => (i.zero, i.size, i.bytes)) = some (some (.string ⟨#[]⟩), 1, 16) from by kernel_rfl)
  induction n with
  | zero => intro l b o cap i w _ h1 _ _ _ _ h2; omega
  | succ n ih =>
    intro l b o cap i w hK h1 h2 h3 hs hx h4
    have HK := Lib.hid hK
    clear hK
    by_cases h5 : 2 ≤ l.length
    · have hr := left_range _ h5
      have Hs := Lib.hid hs
      obtain ⟨k, hk⟩ : ∃ k, left l.length = k := ⟨_, rfl⟩
      have hplt := proofF_lt shaF l i h5
      have hpge := proofF_ge shaF l i h5
      rw [hk] at hr hplt hpge
      have Hk := Lib.hid hk
      have hl1 : (l.take k).length = k := by rw [List.length_take]; omega
      have hl2 : (l.drop k).length = l.length - k := List.length_drop
      have hr1' : ∀ w' : World, Hld w w' → Calls Tryd.prog 26 #[.slice (some ⟨b, o, none⟩) k cap] w' fun e W' => e = .returned (.string ⟨(rootF shaF (l.take k)).toArray⟩) ∧ Below w'.heap.size w' W' := fun w' h => by
        have := Root_calls (l.take k) (some ⟨b, o, none⟩) cap w' (h.konst HK.out) (by omega) (by omega) ((h.strsAt hs).take k).strs (fun x hm => hx x (List.mem_of_mem_take hm))
        rw [hl1] at this
        exact this
      have hr2' : ∀ w' : World, Hld w w' → Calls Tryd.prog 26 #[.slice (some ⟨b, o + k, none⟩) (l.length - k) (cap - k)] w' fun e W' => e = .returned (.string ⟨(rootF shaF (l.drop k)).toArray⟩) ∧ Below w'.heap.size w' W' := fun w' h => by
        have := Root_calls (l.drop k) (some ⟨b, o + k, none⟩) (cap - k) w' (h.konst HK.out) (by omega) (by omega) ((h.strsAt hs).drop k).strs (fun x hm => hx x (List.mem_of_mem_drop hm))
        rw [hl2] at this
        exact this
      by_cases hik : i < k
      · have h1' : ∀ w' : World, Hld w w' → Calls Tryd.prog 40 #[.slice (some ⟨b, o, none⟩) k cap, .int .i64 (i : Int)] w' fun e W' => (∃ v, e = .returned v ∧ RowS W' w'.heap.size v (proofF shaF (l.take k) i)) ∧ Below w'.heap.size w' W' := fun w' h => by
          have := ih (l.take k) b o cap i w' (h.konst HK.out) (by omega) (by omega) (by omega) ((h.strsAt hs).take k) (fun x hm => hx x (List.mem_of_mem_take hm)) (by omega)
          rw [hl1] at this
          exact this
        have hpl := proofF_length shaF (l.take k) i 20 (by rw [hl1]; omega)
        have HE := Lib.hid (hplt hik)
        have H1 := Lib.hid h1'
        have H2 := Lib.hid hr2'
        clear h1' hr1' hr2' hl1 hl2 ih hs hx hk hplt hpge
        generalize proofF shaF (l.take k) i = p at *
        generalize rootF shaF (l.drop k) = r at *
        generalize proofF shaF l i = all at *
        generalize l.length = m at *
        obtain ⟨hr1, hr2, hr3⟩ := hr
        have q2 : ((m : Int) == 1) = false := by rw [beq_eq_false_iff_ne]; omega
        have q3 : (i : Int) < (k : Int) := by omega
        go_enter Tryd.func40, Tryd.ntmps40
        go_wp2_with fail
        refine (firstPart_calls m _ h5 (by omega)).mono ?_
        rw [Hk.out]
        rintro e w' ⟨rfl, rfl⟩
        go_wp2_with fail
        have hc0 : ¬ cap = k := by omega
        have hk1 : (k : Int) ≤ (m : Int) := by omega
        have hk2 : (k : Int) ≤ (cap : Int) := by omega
        have hk3 : (m : Int) ≤ (cap : Int) := by omega
        go_region_held3 (fun w' => Hld w w')
          (first
            | exact Hld.start _
            | exact Hld.step (by assumption) b4
            | exact Hld.step (by assumption) b5
            | exact hld6
            | exact Hld.alloc (by assumption) _)
          (first
            | (go_at_call 40; (with_reducible refine (H1.out _ (by assumption)).mono ?_); rintro e w4 ⟨⟨v4, rfl, hown4⟩, b4⟩)
            | (go_at_call 26; (with_reducible refine (H2.out _ (by assumption)).mono ?_); rintro e w5 ⟨rfl, b5⟩; have hown5 := hown4.below b5)
            | (refine step_append_lies _ (by rfl) _ _ _ (by rfl) _ 9 i0 _ 1 16 Tryd.underlying26 hi hz0 hz1 hz2 rfl (by omega) v4 p.length _ (by rfl) (World.ownsRow.alloc hown5 _)
                ⟨w5.heap.size, 0, none⟩ 1 1 [.string ⟨r.toArray⟩] (by rfl) (by rfl)
                (World.news_of_block (cs := #[.string ⟨r.toArray⟩]) (t := 9) (fr := (0, 0)) (heap_alloc_new w5 _)) (by simp [Value.oneCell'])
                (by omega) (by unfold maxLen; omega) (by omega) (by have h5 := b5.size; have h4 := b4.size; have hd : w.drew.heap.size = w.heap.size := rfl; simp only [World.size_alloc]; omega) (w5.heap.size + 1) (by simp) ?_
               intro gg cap w6 hown6 hgrow hat hlt
               have hld6 : Hld w w6 := Hld.grown (w := w5.alloc _) (by assumption) hgrow (fun q e => (hown5.lt q e).1)))
        all_goals
          go_wp2_with fail
          go_ret
          exact ⟨⟨_, rfl, RowS.snoc HE.out hown6⟩, Hid.out hld6⟩
      · have hie : ((i - k : Nat) : Int) = (i : Int) - (k : Int) := by omega
        have h1' : ∀ w' : World, Hld w w' → Calls Tryd.prog 40 #[.slice (some ⟨b, o + k, none⟩) (l.length - k) (cap - k), .int .i64 ((i : Int) - (k : Int))] w' fun e W' => (∃ v, e = .returned v ∧ RowS W' w'.heap.size v (proofF shaF (l.drop k) (i - k))) ∧ Below w'.heap.size w' W' := fun w' h => by
          have := ih (l.drop k) b (o + k) (cap - k) (i - k) w' (h.konst HK.out) (by omega) (by omega) (by omega) ((h.strsAt hs).drop k) (fun x hm => hx x (List.mem_of_mem_drop hm)) (by omega)
          rw [hl2, hie] at this
          exact this
        have hpl := proofF_length shaF (l.drop k) (i - k) 20 (by rw [hl2]; omega)
        have HE := Lib.hid (hpge hik)
        have H1 := Lib.hid h1'
        have H2 := Lib.hid hr1'
        clear h1' hr1' hr2' hl1 hl2 ih hs hx hk hplt hpge
        generalize proofF shaF (l.drop k) (i - k) = p at *
        generalize rootF shaF (l.take k) = r at *
        generalize proofF shaF l i = all at *
        generalize l.length = m at *
        obtain ⟨hr1, hr2, hr3⟩ := hr
        have q2 : ((m : Int) == 1) = false := by rw [beq_eq_false_iff_ne]; omega
        have q3 : (k : Int) ≤ (i : Int) := by omega
        go_enter Tryd.func40, Tryd.ntmps40
        go_wp2_with fail
        refine (firstPart_calls m _ h5 (by omega)).mono ?_
        rw [Hk.out]
        rintro e w' ⟨rfl, rfl⟩
        go_wp2_with fail
        clear hie
        have q4 : IntKind.i64.wrap ((i : Int) - (k : Int)) = (i : Int) - (k : Int) := IntWalk.i64_in _ (by omega)
        have hc0 : ¬ cap = k := by omega
        have hk1 : (k : Int) ≤ (m : Int) := by omega
        have hk2 : (k : Int) ≤ (cap : Int) := by omega
        have hk3 : (m : Int) ≤ (cap : Int) := by omega
        go_region_held3 (fun w' => Hld w w')
          (first
            | exact Hld.start _
            | exact Hld.step (by assumption) b4
            | exact Hld.step (by assumption) b5
            | exact hld6
            | exact Hld.alloc (by assumption) _)
          (first
            | (go_at_call 40; (with_reducible refine (H1.out _ (by assumption)).mono ?_); rintro e w4 ⟨⟨v4, rfl, hown4⟩, b4⟩)
            | (go_at_call 26; (with_reducible refine (H2.out _ (by assumption)).mono ?_); rintro e w5 ⟨rfl, b5⟩; have hown5 := hown4.below b5)
            | (refine step_append_lies _ (by rfl) _ _ _ (by rfl) _ 9 i0 _ 1 16 Tryd.underlying26 hi hz0 hz1 hz2 rfl (by omega) v4 p.length _ (by rfl) (World.ownsRow.alloc hown5 _)
                ⟨w5.heap.size, 0, none⟩ 1 1 [.string ⟨r.toArray⟩] (by rfl) (by rfl)
                (World.news_of_block (cs := #[.string ⟨r.toArray⟩]) (t := 9) (fr := (0, 0)) (heap_alloc_new w5 _)) (by simp [Value.oneCell'])
                (by omega) (by unfold maxLen; omega) (by omega) (by have h5 := b5.size; have h4 := b4.size; have hd : w.drew.heap.size = w.heap.size := rfl; simp only [World.size_alloc]; omega) (w5.heap.size + 1) (by simp) ?_
               intro gg cap w6 hown6 hgrow hat hlt
               have hld6 : Hld w w6 := Hld.grown (w := w5.alloc _) (by assumption) hgrow (fun q e => (hown5.lt q e).1)))
        all_goals
          go_wp2_with fail
          go_ret
          exact ⟨⟨_, rfl, RowS.snoc HE.out hown6⟩, Hid.out hld6⟩
    · obtain ⟨x, rfl⟩ : ∃ x, l = [x] := by
        match l, h4, h5 with
        | [x], _, _ => exact ⟨x, rfl⟩
        | _ :: _ :: _, _, h5 => exact absurd (by simp) h5
      have HE := Lib.hid (proofF_one shaF [x] i (Nat.le_refl _))
      clear ih hs hx h1 h2 h4 h5
      show Calls _ _ #[.slice (some ⟨b, o, none⟩) 1 cap, _] _ _
      go_enter Tryd.func40, Tryd.ntmps40
      go_wp2_with fail
      go_ret
      exact ⟨⟨_, rfl, by rw [HE.out]; exact RowS.nil _ _⟩, Below.refl _ _⟩

/-- Proof within the list. -/
theorem Proof_in (l : List Bs) (A : Option Addr) (cap i : Nat) (w : World) (hK : Konst w) (h2 : l.length ≤ 1000000) (h3 : l.length ≤ cap) (hs : Strs w A l) (hx : ∀ x ∈ l, x.length ≤ 1000000000) (hi : i < l.length) :
    Calls Tryd.prog 21 #[.slice A l.length cap, .int .i64 (i : Int)] w fun e W' => (∃ v, e = .returned (.tuple #[v, .int .i64 0]) ∧ RowS W' w.heap.size v (proofF shaF l i)) ∧ Below w.heap.size w W' := by
  rcases hs with rfl | ⟨b, o, rfl, h⟩
  · simp at hi
  · have H := Lib.hid (path_main l.length l b o cap i w hK (Nat.le_refl _) h2 h3 h hx hi)
    generalize proofF shaF l i = p at *
    clear hx hK h
    generalize l.length = m at *
    go_enter Tryd.func21, Tryd.ntmps21
    go_wp2_with fail
    refine H.out.mono ?_
    rintro e w4 ⟨⟨v, rfl, hown⟩, b4⟩
    go_wp2_with fail
    refine bodyPost_ret (results_tmp2 rfl _ _ _) rfl ?_
    exact ⟨⟨_, rfl, hown⟩, b4⟩
/-- Proof beyond the list. -/
theorem Proof_out (m : Nat) (A : Option Addr) (cap : Nat) (i : Int) (w : World) (hi : i < 0 ∨ (m : Int) ≤ i) :
    Calls Tryd.prog 21 #[.slice A m cap, .int .i64 i] w fun e W' => e = .returned (.tuple #[.slice none 0 0, .int .i64 2]) ∧ Below w.heap.size w W' := by
  by_cases h0 : i < 0
  · clear hi
    go_enter Tryd.func21, Tryd.ntmps21
    go_wp2_with fail
    refine bodyPost_ret (results_tmp2 rfl _ _ _) rfl ?_
    exact ⟨rfl, Below.refl _ _⟩
  · have h1 : (m : Int) ≤ i := by omega
    clear hi
    have h2 : 0 ≤ i := by omega
    go_enter Tryd.func21, Tryd.ntmps21
    go_wp2_with fail
    refine bodyPost_ret (results_tmp2 rfl _ _ _) rfl ?_
    exact ⟨rfl, Below.refl _ _⟩
end Go.Proofs.YtinioifhbafngaaDoor
