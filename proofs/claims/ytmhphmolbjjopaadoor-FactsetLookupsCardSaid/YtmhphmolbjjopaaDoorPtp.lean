/- FactsetPart's plain side. -/
import Derived.Test.YtmhphmolbjjopaaDoorOf
namespace Go.Proofs.YtmhphmolbjjopaaDoor
theorem idsE_eq (es : List Ent) : idsE es = es.map (·.1) := rfl
theorem miss_none {es : List Ent} {ask : List Bs} (h : ∀ k ∈ ask, hasE es k = true) : missK es ask = [] := by
  cases hm : missK es ask with
  | nil => rfl
  | cons k r =>
    have h1 : k ∈ missK es ask := by rw [hm]; exact List.mem_cons_self ..
    rw [mem_missK] at h1
    rw [h k h1.1] at h1
    cases h1.2
theorem miss_more {es : List Ent} {ask : List Bs} {more : Bs} (hm : more ∈ ask) (hn : hasE es more = false) (h : ∀ k ∈ ask, k ≠ more → hasE es k = true) : missK es ask = [more] := by
  have he : missE es ask = [(more, .bool true)] := asc_ext (missE_asc _ _) (List.pairwise_singleton _ _) fun k => by
    rw [missE_get]
    show _ = if more = k then some (Value.bool true) else none
    by_cases hk : more = k
    · subst hk
      rw [if_pos ⟨hm, hn⟩, if_pos rfl]
    · rw [if_neg hk, if_neg]
      rintro ⟨h1, h2⟩
      rw [h k h1 (fun e => hk e.symm)] at h2
      cases h2
  unfold missK
  rw [he]
  rfl
theorem filter_sub {S K : List Bs} (h : S.Sublist K) : K.Pairwise (· ≠ ·) → K.filter (fun k => decide (k ∈ S)) = S := by
  induction h with
  | slnil => intro _; rfl
  | cons a h ih =>
    intro hn
    rw [List.pairwise_cons] at hn
    rw [List.filter_cons, if_neg, ih hn.2]
    simp only [decide_eq_true_eq]
    intro ha
    exact hn.1 a (h.subset ha) rfl
  | cons_cons a h ih =>
    intro hn
    rw [List.pairwise_cons] at hn
    rw [List.filter_cons, if_pos (by simp)]
    congr 1
    refine Eq.trans ?_ (ih hn.2)
    apply List.filter_congr
    intro x hx
    have hne := hn.1 x hx
    simp [Ne.symm hne]
theorem part_filter {es : List Ent} (h : Asc es) {ask : List Bs} (hm : missK es ask = []) : partE es ask = es.filter (fun p => decide (p.1 ∈ ask)) :=
  asc_ext (partE_asc es ask) (h.filter _) fun k => by
    rw [partE_get hm]
    have hf : ∀ l : List Ent, getE (l.filter (fun p => decide (p.1 ∈ ask))) k = if k ∈ ask then getE l k else none := by
      intro l
      induction l with
      | nil => simp [getE]
      | cons p r ih =>
        rw [List.filter_cons]
        by_cases hp : p.1 ∈ ask
        · rw [if_pos (by simpa using hp)]
          by_cases hk : p.1 = k
          · subst hk; simp [getE, hp]
          · simp only [getE, hk, if_false, ih]
        · rw [if_neg (by simpa using hp), ih]
          by_cases hk : p.1 = k
          · subst hk; simp [hp]
          · simp only [getE, hk, if_false]
    rw [hf]
theorem part_ids {es : List Ent} (h : Asc es) {ask S : List Bs} (hm : missK es ask = []) (hS : S.Sublist (idsE es)) (hk : ∀ k, k ∈ ask ↔ k ∈ S) : idsE (partE es ask) = S := by
  rw [part_filter h hm]
  refine Eq.trans ?_ (filter_sub hS (keys_apart h))
  show (es.filter _).map (·.1) = (es.map (·.1)).filter _
  rw [List.filter_map]
  congr 1
  apply List.filter_congr
  intro p _
  simp only [Function.comp, hk]
theorem part_len {es : List Ent} (h : Asc es) {ask S : List Bs} (hm : missK es ask = []) (hS : S.Sublist (idsE es)) (hk : ∀ k ∈ S, k ∈ ask) : S.length ≤ (partE es ask).length := by
  have h1 : (partE es ask).length = ((idsE es).filter (fun k => decide (k ∈ ask))).length := by
    rw [part_filter h hm]
    show _ = ((es.map (·.1)).filter _).length
    rw [List.filter_map, List.length_map]
    rfl
  rw [h1]
  have h2 := (hS.filter (fun k => decide (k ∈ ask))).length_le
  rwa [List.filter_eq_self.2 (fun k hk2 => by simpa using hk k hk2)] at h2
theorem part_uni {es : List Ent} (hG : Good es) {ask : List Bs} (hm : missK es ask = []) : uniErr es (partE es ask) = 0 ∧ uniS es (partE es ask) = es := by
  have hmm : missK es (idsE (partE es ask)) = [] := miss_none fun k hk => by
    have h1 := (mem_keys (partE_asc es ask) k).1 hk
    unfold hasE at h1 ⊢
    rw [partE_get hm] at h1
    split at h1
    · exact h1
    · cases h1
  unfold uniErr uniS
  rw [hmm]
  have hl : es.length + ([] : List Bs).length ≤ 4000 := by simpa using hG.2.2
  rw [if_pos hl, if_pos hl]
  refine ⟨rfl, ?_⟩
  unfold uniE
  rw [show missK es ((partE es ask).map (·.1)) = [] from hmm]
  rfl
theorem sub_take {S K : List Bs} {k : Nat} (h : S.Sublist (K.take k)) (hk : k < K.length) : S.Sublist (K.take (k + 1)) ∧ (S ++ [K.getD k []]).Sublist (K.take (k + 1)) := by
  rw [List.take_succ_eq_append_getElem hk, List.getD_eq_getElem?_getD, List.getElem?_eq_getElem hk]
  exact ⟨h.trans (List.sublist_append_left _ _), h.append (List.Sublist.refl _)⟩
theorem has_of_key {es : List Ent} (h : Asc es) {S : List Bs} (hS : S.Sublist (idsE es)) {k : Bs} (hk : k ∈ S) : hasE es k = true := (mem_keys h k).1 (hS.subset hk)
theorem addAll_le : ∀ (l : List Fa) (es : List Ent), Good es → (addAll es l).length ≤ es.length + l.length
  | [], es, _ => Nat.le_refl _
  | f :: r, es, h => by
    have h1 := addAll_le r (plusE es f) (good_add h f)
    have h2 := (plusE_length h f).1
    show (addAll (plusE es f) r).length ≤ _
    rw [List.length_cons]
    omega
theorem ofL_le (l : List Fa) : (ofL l).length ≤ l.length := by
  have := addAll_le l [] good_nil
  simpa [ofL] using this
theorem keylen {es : List Ent} (h : Good es) {k : Bs} (hk : k ∈ idsE es) : k.length = 32 := by
  obtain ⟨p, hp, rfl⟩ := List.mem_map.1 hk
  exact good_key h hp
end Go.Proofs.YtmhphmolbjjopaaDoor
