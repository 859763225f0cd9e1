/- Appending a row of facts of one's own to another; FactsetUnion's plain side. -/
import Derived.Test.YtmhphmolbjjopaaDoorOf
import Derived.Test.YtmhphmolbjjopaaDoorOrp
import Derived.Maps.AppendAt
namespace Go.Proofs.YtmhphmolbjjopaaDoor
open Go.RowKit
theorem cellsA_app (l m : List Fa) : cellsA (l ++ m) = cellsA l ++ cellsA m := by unfold cellsA; rw [List.flatMap_append]
theorem append_facts (base base2 : Nat) (w : World) {v u : Value} {l m : List Fa} (hv : RowA w base v l) (hu : RowA w base2 u m) (hb : base ≤ w.heap.size) (hlen : l.length + m.length ≤ 1000000) (ty : TypeId) :
    ∃ v' w', (Builtin.append_ #[22, 22] ty #[v, u]).run Tryd.prog w = .ok v' w' ∧ RowA w' base v' (l ++ m) ∧ w.grownBy w' v.ownBlock := by
  obtain ⟨i0, hi, hz0, hz1, hz2⟩ := info_parts infoF
  rcases hu.2 with ⟨rfl, h0⟩ | ⟨g, cap, cur, rfl, _, hg, hcap, _, _, htake⟩
  · have hm : m = [] := List.length_eq_zero_iff.1 h0
    subst hm
    refine ⟨v, w, run_append_owned_none w base 22 ty 33 i0 18 Tryd.underlying22 hi v l.length (cellsA l) hv, ?_, ⟨rfl, rfl, rfl, Nat.le_refl _, fun _ _ _ => rfl⟩⟩
    rw [List.append_nil]; exact hv
  · have hone : ∀ x ∈ cellsA m, x.oneCell' = true := by
      intro x hx
      unfold cellsA at hx
      obtain ⟨f, _, hf⟩ := List.mem_flatMap.1 hx
      exact Array.all_eq_true_iff_forall_mem.1 (factC_one f.1 f.2) x (Array.mem_def.2 hf)
    obtain ⟨v', w', hr, ho, hgr, _, _⟩ := run_append_own_at w base 22 ty 33 i0 _ 18 152 Tryd.underlying22 hi hz0 hz1 hz2 rfl (by decide) v l.length (cellsA l) hv ⟨g, 0, none⟩ m.length cap (cellsA m) (cellsA_length m) (by
      intro j x hx
      have e : Addr.add ⟨g, 0, none⟩ j = ⟨g, 0 + j, none⟩ := by unfold Addr.add; split <;> simp_all
      rw [e, cell_of_row _ _ _ _ _ _ hg, Nat.zero_add, ← Array.getElem?_toList]
      rw [← htake, List.getElem?_take] at hx
      split at hx
      · exact hx
      · cases hx) hone (by unfold maxLen; omega) (by omega) hb
    refine ⟨v', w', hr, ?_, hgr⟩
    unfold RowA
    rw [List.length_append, cellsA_app]
    exact ho

/-! ### Unions of sets of facts -/
theorem firstF_app (a b : List Fa) (k : List UInt8) : firstF (a ++ b) k = (firstF a k).or (firstF b k) := by unfold firstF; rw [List.find?_append]
theorem uni_of (a b : List Fa) (h : a.length + b.length ≤ 4000) : uniE (ofL a) (ofL b) = ofL (a ++ b) :=
  asc_ext (uniE_asc (good_of a).1) (good_of _).1 fun k => by
    rw [uniE_get (good_of a).1 (good_of b).1, ofL_get a (by omega), ofL_get b (by omega), ofL_get _ (by rw [List.length_append]; omega), firstF_app]
    cases firstF a k <;> rfl
theorem ofL_length_le (l : List Fa) : (ofL l).length ≤ l.length := by
  have h1 := ofL_count l l.length (Nat.le_refl _)
  rw [List.take_length] at h1
  exact Nat.le_trans h1 (cntF_le l l.length)
theorem uni_fits (a b : List Fa) (h : a.length + b.length ≤ 4000) : uniErr (ofL a) (ofL b) = 0 ∧ uniS (ofL a) (ofL b) = ofL (a ++ b) := by
  have h1 := ofL_length_le a
  have h2 := ofL_length_le b
  have h3 := missK_length_le (ofL a) (idsE (ofL b))
  have h4 : (idsE (ofL b)).length = (ofL b).length := by unfold idsE; rw [List.length_map]
  have hf : (ofL a).length + (missK (ofL a) (idsE (ofL b))).length ≤ 4000 := by omega
  unfold uniErr uniS
  rw [if_pos hf, if_pos hf]
  exact ⟨rfl, uni_of a b h⟩
theorem asc_marks {es : List Ent} (h : Asc es) : Asc (es.map fun p => (p.1, .bool true)) := by
  unfold Asc at *
  rw [List.pairwise_map]
  exact h
theorem marks_get (k : List UInt8) : ∀ es : List Ent, getE (es.map fun p => (p.1, .bool true)) k = if hasE es k = true then some (.bool true) else none
  | [] => rfl
  | p :: es => by
    have ih := marks_get k es
    unfold hasE at *
    simp only [List.map_cons, getE]
    by_cases hp : p.1 = k
    · simp [hp]
    · simp only [hp, if_false, ih]
theorem same_keys_length {s t : List Ent} (hs : Asc s) (ht : Asc t) (h : ∀ k, hasE s k = hasE t k) : s.length = t.length := by
  have he : (s.map fun p => ((p.1, .bool true) : Ent)) = t.map fun p => (p.1, .bool true) := asc_ext (asc_marks hs) (asc_marks ht) fun k => by rw [marks_get, marks_get, h k]
  have := congrArg List.length he
  simpa using this
theorem sub_length {s t : List Ent} (hs : Asc s) (ht : Asc t) (h : ∀ k, hasE s k = true → hasE t k = true) : s.length ≤ t.length := by
  have h1 := uniE_length (t := t) hs
  have h2 : (uniE s t).length = t.length := same_keys_length (uniE_asc hs) ht fun k => by
    have hg := uniE_get hs ht k
    have hk := h k
    unfold hasE at *
    rw [hg]
    cases hgs : getE s k with
    | none => rfl
    | some x => rw [hgs] at hk; exact (hk rfl).symm
  omega
theorem ofL_sub {a b : List Fa} (ha : a.length ≤ 4000) (hb : b.length ≤ 4000) (h : ∀ f ∈ a, f ∈ b) : (ofL a).length ≤ (ofL b).length :=
  sub_length (good_of a).1 (good_of b).1 fun k hk => by
    unfold hasE at hk
    rw [ofL_get a ha] at hk
    cases hf : firstF a k with
    | none => rw [hf] at hk; cases hk
    | some f =>
      obtain ⟨h1, h2, rfl⟩ := firstF_some hf
      exact ofL_hasE b hb (h f h1) h2
theorem un_eq {X Y Z : List Fa} (lX : X.length ≤ 25) (lY : Y.length ≤ 25) (lZ : Z.length ≤ 25) (hT : ¬ TwinsP (X ++ Y ++ Z)) :
    ofL (X ++ Y ++ Z ++ Y) = ofL (Z ++ Y ++ X) ∧ ofL (X ++ Y ++ Z ++ Y) = ofL (X ++ Y ++ Z) := by
  have e1 : ofL (X ++ Y ++ Z ++ Y) = ofL (X ++ Y ++ Z) := ofL_same hT (fun f h => by grind) (fun f h => h) (fun f => by grind) (by simp only [List.length_append]; omega) (by simp only [List.length_append]; omega)
  have e2 : ofL (Z ++ Y ++ X) = ofL (X ++ Y ++ Z) := ofL_same hT (fun f h => by grind) (fun f h => h) (fun f => by grind) (by simp only [List.length_append]; omega) (by simp only [List.length_append]; omega)
  exact ⟨by rw [e1, e2], e1⟩
theorem un_le {X Y Z : List Fa} (lX : X.length ≤ 25) (lY : Y.length ≤ 25) (lZ : Z.length ≤ 25) :
    (ofL X).length ≤ (ofL (X ++ Y ++ Z ++ Y)).length ∧ (ofL Y).length ≤ (ofL (X ++ Y ++ Z ++ Y)).length ∧ (ofL Z).length ≤ (ofL (X ++ Y ++ Z ++ Y)).length :=
  ⟨ofL_sub (by omega) (by simp only [List.length_append]; omega) (fun f h => by grind), ofL_sub (by omega) (by simp only [List.length_append]; omega) (fun f h => by grind), ofL_sub (by omega) (by simp only [List.length_append]; omega) (fun f h => by grind)⟩
end Go.Proofs.YtmhphmolbjjopaaDoor
