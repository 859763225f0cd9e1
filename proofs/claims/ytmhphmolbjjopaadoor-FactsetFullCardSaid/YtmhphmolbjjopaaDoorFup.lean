/- FactsetFull's plain side: sets of plays. -/
import Derived.Test.YtmhphmolbjjopaaDoorPln
import Derived.Test.YtmhphmolbjjopaaDoorUni
import Derived.Test.YtmhphmolbjjopaaDoorHel
namespace Go.Proofs.YtmhphmolbjjopaaDoor
/-- The plays of the numbers a .. a+m-1 and nothing else. -/
def PlayS (es : List Ent) (a m : Nat) : Prop := Good es ∧ es.length = m ∧ ∀ k, hasE es k = true ↔ ∃ j : Nat, a ≤ j ∧ j < a + m ∧ k = keyF (playA j)
theorem okPlays : allB (fun n => okA (playA (n : Int))) 12 0 4006 = true := by decide +kernel
theorem okPlay (n : Nat) (h : n < 4006) : okA (playA n) = true := allB_spec _ 12 0 4006 (by decide) okPlays n (by omega) (by omega)
theorem key_play {i j : Nat} (hi : i < 4006) (hj : j < 4006) (h : keyF (playA i) = keyF (playA j)) : i = j := play_inj i j hi hj h
theorem playS_nil (a : Nat) : PlayS [] a 0 := ⟨good_nil, rfl, fun k => ⟨fun h => (by cases h), fun ⟨j, h1, h2, _⟩ => by omega⟩⟩
theorem playS_not {es : List Ent} {a m : Nat} (h : PlayS es a m) (j : Nat) (hj : j < a ∨ a + m ≤ j) (h1 : j < 4006) (h2 : a + m ≤ 4006) : hasE es (keyF (playA j)) = false := by
  cases hh : hasE es (keyF (playA j)) with
  | false => rfl
  | true =>
    obtain ⟨i, h3, h4, h5⟩ := (h.2.2 _).1 hh
    have := key_play h1 (by omega) h5
    omega
theorem playS_has {es : List Ent} {a m : Nat} (h : PlayS es a m) (j : Nat) (h1 : a ≤ j) (h2 : j < a + m) : hasE es (keyF (playA j)) = true := (h.2.2 _).2 ⟨j, h1, h2, rfl⟩
/-- The next play is new, and fits. -/
theorem playS_new {es : List Ent} {a m : Nat} (h : PlayS es a m) (hm : m < 4000) (ha : a + m < 4006) :
    plusB es (playA ((a + m : Nat) : Int)) = true ∧ plusN es (playA ((a + m : Nat) : Int)) = 0 ∧ PlayS (plusE es (playA ((a + m : Nat) : Int))) a (m + 1) := by
  have hn := playS_not h (a + m) (by omega) ha (by omega)
  have ho := okPlay (a + m) (by omega)
  have hl : es.length < 4000 := by rw [h.2.1]; exact hm
  have hp : plusE es (playA ((a + m : Nat) : Int)) = putE (keyF (playA ((a + m : Nat) : Int))) (valF (playA ((a + m : Nat) : Int))) es := by
    unfold plusE; rw [ho, hn, decide_eq_true hl]; rfl
  refine ⟨by unfold plusB; rw [ho, hn, decide_eq_true hl]; rfl, by unfold plusN; rw [if_pos ho, if_neg (by rw [hn]; decide), if_pos hl], good_add h.1 _, ?_, ?_⟩
  · rw [hp, putE_length h.1.1, hn, if_neg (by decide), h.2.1]
  · intro k
    have hg := putE_get (k := keyF (playA ((a + m : Nat) : Int))) (x := valF (playA ((a + m : Nat) : Int))) h.1.1 k
    rw [hp]
    unfold hasE
    rw [hg]
    by_cases hk : keyF (playA ((a + m : Nat) : Int)) = k
    · rw [if_pos hk]
      exact ⟨fun _ => ⟨a + m, by omega, by omega, hk.symm⟩, fun _ => rfl⟩
    · rw [if_neg hk]
      constructor
      · intro hh
        obtain ⟨j, h1, h2, h3⟩ := (h.2.2 k).1 hh
        exact ⟨j, h1, by omega, h3⟩
      · rintro ⟨j, h1, h2, h3⟩
        have hj : j ≠ a + m := fun e => hk (by rw [h3, e])
        exact (h.2.2 k).2 ⟨j, h1, by omega, h3⟩
/-- What is there is there still. -/
theorem playS_old {es : List Ent} {a m : Nat} (h : PlayS es a m) (j : Nat) (h1 : a ≤ j) (h2 : j < a + m) (h3 : j < 4006) :
    plusB es (playA (j : Int)) = false ∧ plusN es (playA (j : Int)) = 0 ∧ plusE es (playA (j : Int)) = es := by
  have hn := playS_has h j h1 h2
  have ho := okPlay j h3
  refine ⟨by unfold plusB; rw [ho, hn]; rfl, by unfold plusN; rw [if_pos ho, if_pos hn], by unfold plusE; rw [ho, hn]; rfl⟩
/-- A full set takes no more. -/
theorem playS_full {es : List Ent} (h : PlayS es 0 4000) (j : Nat) (h1 : 4000 ≤ j) (h2 : j < 4006) :
    plusB es (playA (j : Int)) = false ∧ plusN es (playA (j : Int)) = 60 ∧ plusE es (playA (j : Int)) = es := by
  have hn := playS_not h j (by omega) h2 (by omega)
  have ho := okPlay j (by omega)
  have hl : ¬ es.length < 4000 := by rw [h.2.1]; decide
  refine ⟨by unfold plusB; rw [ho, hn, decide_eq_false hl]; rfl, by unfold plusN; rw [if_pos ho, if_neg (by rw [hn]; decide), if_neg hl], by unfold plusE; rw [ho, hn, decide_eq_false hl]; rfl⟩
theorem asc_marks {es : List Ent} (h : Asc es) : Asc (es.map fun p => (p.1, .bool true)) := by
  unfold Asc at *
  rw [List.pairwise_map]
  exact h
theorem marks_get (k : List UInt8) : ∀ es : List Ent, getE (es.map fun p => (p.1, .bool true)) k = if hasE es k = true then some (.bool true) else none
  | [] => rfl
  | p :: es => by
    have ih := marks_get k es
    unfold hasE at *
    simp only [List.map_cons, getE]
    by_cases hp : p.1 = k
    · simp [hp]
    · simp only [hp, if_false, ih]
theorem has_mem {es : List Ent} (h : Asc es) (k : List UInt8) : k ∈ idsE es ↔ hasE es k = true := mem_keys h k
/-- Of a set that has nothing in common, all is missing. -/
theorem miss_all {s t : List Ent} (ht : Asc t) (hd : ∀ k, hasE t k = true → hasE s k = false) : (missK s (idsE t)).length = t.length := by
  have he : missE s (idsE t) = t.map fun p => (p.1, .bool true) := asc_ext (missE_asc _ _) (asc_marks ht) fun k => by
    rw [missE_get, marks_get]
    by_cases hk : hasE t k = true
    · rw [if_pos hk, if_pos ⟨(has_mem ht k).2 hk, hd k hk⟩]
    · rw [if_neg hk, if_neg (fun h => hk ((has_mem ht k).1 h.1))]
  unfold missK
  rw [he, List.length_map, List.length_map]
theorem uniS_play {s t : List Ent} {n m : Nat} (hs : PlayS s 0 n) (ht : PlayS t n m) (hn : n + m ≤ 4006) :
    (uniErr s t = if n + m ≤ 4000 then 0 else 60) ∧ PlayS (uniS s t) 0 (if n + m ≤ 4000 then n + m else n) ∧ (¬ n + m ≤ 4000 → uniS s t = s) := by
  have hm : (missK s (idsE t)).length = m := by
    rw [miss_all ht.1.1 (fun k hk => ?_), ht.2.1]
    obtain ⟨j, h1, h2, rfl⟩ := (ht.2.2 k).1 hk
    exact playS_not hs j (by omega) (by omega) (by omega)
  unfold uniErr uniS
  rw [hs.2.1, hm]
  by_cases h : n + m ≤ 4000
  · simp only [if_pos h]
    refine ⟨trivial, ⟨?_, ?_, ?_⟩, fun h1 => absurd h h1⟩
    · have := good_uni hs.1 ht.1
      unfold uniS at this
      rwa [hs.2.1, hm, if_pos h] at this
    · rw [uniE_length hs.1.1]
      show s.length + (missK s (idsE t)).length = n + m
      rw [hs.2.1, hm]
    · intro k
      have hg := uniE_get hs.1.1 ht.1.1 k
      have ho : hasE (uniE s t) k = (hasE s k || hasE t k) := by unfold hasE; rw [hg]; cases getE s k <;> rfl
      rw [ho, Bool.or_eq_true, hs.2.2, ht.2.2]
      constructor
      · rintro (⟨j, h1, h2, h3⟩ | ⟨j, h1, h2, h3⟩)
        · exact ⟨j, h1, by omega, h3⟩
        · exact ⟨j, by omega, by omega, h3⟩
      · rintro ⟨j, h1, h2, h3⟩
        by_cases hj : j < n
        · exact .inl ⟨j, h1, by omega, h3⟩
        · exact .inr ⟨j, by omega, by omega, h3⟩
  · simp only [if_neg h]
    exact ⟨trivial, hs, fun _ => trivial⟩
end Go.Proofs.YtmhphmolbjjopaaDoor
