/- The reference's sets of facts: a row of elements behind a pointer; where an ID's place is; what putting an element makes. Plain mathematics and words for memory. -/
import Derived.Test.YtnndnjnpkjpkpaaGreatDoorOf
namespace Go.Proofs.YtnndnjnpkjpkpaaGreatDoor
open Go Go.RowKit Go.Maps
/-- An element: an ID and a fact. -/
abbrev El := Bs × Fa
def elC (e : El) : Array Value := (.string ⟨e.1.toArray⟩ :: (factC e.2.1 e.2.2).toList).toArray
def zeroE : El := ([], zeroA)
def entR (e : El) : Ent := (e.1, valF e.2)
def esR (l : List El) : List Ent := l.map entR
def cellsR (l : List El) : List Value := l.flatMap fun e => (elC e).toList
theorem elC_len (e : El) : (elC e).toList.length = 19 := rfl
theorem elC_one (e : El) : (elC e).all (·.oneCell') = true := by
  have h := factC_one e.2.1 e.2.2
  rw [Array.all_eq_true_iff_forall_mem] at h ⊢
  intro x hx
  unfold elC at hx
  rcases List.mem_cons.1 (List.mem_toArray.1 hx) with rfl | hx
  · rfl
  · exact h x (Array.mem_def.2 hx)
theorem cellsR_snoc (l : List El) (e : El) : cellsR (l ++ [e]) = cellsR l ++ (elC e).toList := by unfold cellsR; rw [List.flatMap_append]; simp
theorem cellsR_append (l m : List El) : cellsR (l ++ m) = cellsR l ++ cellsR m := by unfold cellsR; rw [List.flatMap_append]
theorem cellsR_cons (e : El) (l : List El) : cellsR (e :: l) = (elC e).toList ++ cellsR l := rfl
theorem cellsR_length (l : List El) : (cellsR l).length = l.length * 19 := by
  induction l with
  | nil => rfl
  | cons x r ih => rw [cellsR_cons, List.length_append, ih, elC_len, List.length_cons]; omega
theorem cellsR_get (l : List El) (i j : Nat) (hi : i < l.length) (hj : j < 19) : (cellsR l)[i * 19 + j]? = (elC (l.getD i zeroE))[j]? := by
  induction l generalizing i with
  | nil => simp at hi
  | cons f r ih =>
    rw [cellsR_cons]
    cases i with
    | zero =>
      rw [List.getElem?_append_left (by rw [elC_len]; omega), Nat.zero_mul, Nat.zero_add]
      simp
    | succ i =>
      rw [List.getElem?_append_right (by rw [elC_len]; omega), elC_len, show (i + 1) * 19 + j - 19 = i * 19 + j by omega]
      rw [ih i (by simpa using hi)]
      simp
theorem esR_length (l : List El) : (esR l).length = l.length := List.length_map ..
/-! ### Where a set lies -/
def ElAt (w : World) (g : Nat) (l : List El) : Prop := ∀ i, i < l.length → ∀ j x, (elC (l.getD i zeroE))[j]? = some x → w.cell? ⟨g, i * 19 + j, none⟩ = some x
theorem ElAt.id {w : World} {g : Nat} {l : List El} (h : ElAt w g l) {i : Nat} (hi : i < l.length) : w.cell? ⟨g, i * 19, none⟩ = some (.string ⟨(l.getD i zeroE).1.toArray⟩) := h i hi 0 _ rfl
theorem ElAt.fact {w : World} {g : Nat} {l : List El} (h : ElAt w g l) {i : Nat} (hi : i < l.length) : ∀ j x, (factC (l.getD i zeroE).2.1 (l.getD i zeroE).2.2)[j]? = some x → w.cell? ⟨g, i * 19 + 1 + j, none⟩ = some x := fun j x hx => by
  have := h i hi (j + 1) x (by unfold elC; simpa using hx)
  rwa [show i * 19 + (j + 1) = i * 19 + 1 + j by omega] at this
/-- The set behind p: its row is v. -/
def RSetAt (w : World) (p : Nat) (v : Value) (l : List El) : Prop := w.heap[p]? = some (.cells #[v] 33 (0, 0)) ∧ w.ownsRow 0 69 19 v l.length (cellsR l) ∧ v.ownBlock ≠ some p
theorem RSetAt.cell {w : World} {p : Nat} {v : Value} {l : List El} (h : RSetAt w p v l) : w.cell? ⟨p, 0, none⟩ = some v := by rw [cell_of_row _ _ _ _ _ _ h.1]; rfl
theorem RSetAt.frozen {w : World} {p : Nat} {v : Value} {l : List El} (h : RSetAt w p v l) : w.frozen? ⟨p, 0, none⟩ = false := frozen_of_row _ _ _ _ _ h.1
theorem RSetAt.ltp {w : World} {p : Nat} {v : Value} {l : List El} (h : RSetAt w p v l) : p < w.heap.size := (Array.getElem?_eq_some_iff.1 h.1).1
theorem RSetAt.reads {w : World} {p : Nat} {v : Value} {l : List El} (h : RSetAt w p v l) : ∃ A cap, v = .slice A l.length cap ∧ l.length ≤ cap ∧ (l = [] ∨ ∃ g, A = some ⟨g, 0, none⟩ ∧ ElAt w g l) := by
  rcases h.2.1.2 with ⟨rfl, h0⟩ | ⟨g, cap, cur, rfl, _, hg, hcap, _, _, htake⟩
  · exact ⟨none, 0, by rw [h0], by omega, .inl (List.length_eq_zero_iff.1 h0)⟩
  · refine ⟨some ⟨g, 0, none⟩, cap, rfl, hcap, .inr ⟨g, rfl, fun i hi j x hx => ?_⟩⟩
    have hj : j < 19 := (Array.getElem?_eq_some_iff.1 hx).1
    rw [cell_of_row _ _ _ _ _ _ hg]
    have h1 := cellsR_get l i j hi hj
    rw [hx] at h1
    rw [← htake, List.getElem?_take] at h1
    split at h1
    · rw [← h1, Array.getElem?_toList]
    · cases h1
theorem RSetAt.keep {w w' : World} {p : Nat} {v : Value} {l : List El} (h : RSetAt w p v l) (hp : w'.heap[p]? = w.heap[p]?) (hv : ∀ g, v.ownBlock = some g → w'.heap[g]? = w.heap[g]?) : RSetAt w' p v l := by
  refine ⟨hp.trans h.1, ⟨h.2.1.1, ?_⟩, h.2.2⟩
  rcases h.2.1.2 with h0 | ⟨g, cap, cur, hv', hbg, hg, r⟩
  · exact .inl h0
  · exact .inr ⟨g, cap, cur, hv', hbg, (hv g (by rw [hv']; rfl)).trans hg, r⟩
theorem RSetAt.ltv {w : World} {p : Nat} {v : Value} {l : List El} (h : RSetAt w p v l) {g : Nat} (hg : v.ownBlock = some g) : g < w.heap.size := (World.ownsRow.lt h.2.1 g hg).2
theorem RSetAt.below {w w' : World} {p : Nat} {v : Value} {l : List El} (h : RSetAt w p v l) (hb : Below w.heap.size w w') : RSetAt w' p v l :=
  h.keep (hb.block _ h.ltp) (fun _ hg => hb.block _ (h.ltv hg))
theorem RSetAt.grown {w w' : World} {p : Nat} {v : Value} {l : List El} {row : Option Nat} (h : RSetAt w p v l) (hg : w.grownBy w' row) (h1 : row ≠ some p) (h2 : ∀ g, v.ownBlock = some g → row ≠ some g) : RSetAt w' p v l :=
  h.keep (hg.block _ h.ltp (Ne.symm h1)) (fun g e => hg.block _ (h.ltv e) (Ne.symm (h2 g e)))
/-! ### Where an ID's place is -/
def PosP (l : List El) (k : Bs) (m : Nat) : Prop := m ≤ l.length ∧ (∀ i, i < m → Op.bytesLess (l.getD i zeroE).1 k = true) ∧ (∀ i, m ≤ i → i < l.length → Op.bytesLess (l.getD i zeroE).1 k = false)
theorem asc_el {l : List El} (h : Asc (esR l)) {i j : Nat} (hij : i < j) (hj : j < l.length) : Op.bytesLess (l.getD i zeroE).1 (l.getD j zeroE).1 = true := by
  unfold Asc esR at h
  rw [List.pairwise_map] at h
  have h1 := List.pairwise_iff_getElem.1 h i j (by omega) hj hij
  rw [List.getD_eq_getElem?_getD, List.getD_eq_getElem?_getD, List.getElem?_eq_getElem hj, List.getElem?_eq_getElem (show i < l.length by omega)]; exact h1
theorem pos_less {l : List El} (h : Asc (esR l)) {k : Bs} {m : Nat} (hm : m < l.length) (hk : Op.bytesLess (l.getD m zeroE).1 k = true) : ∀ i, i < m + 1 → Op.bytesLess (l.getD i zeroE).1 k = true := fun i hi => by
  rcases Nat.lt_or_ge i m with h1 | h1
  · exact ls_trans (asc_el h h1 hm) hk
  · obtain rfl : i = m := by omega
    exact hk
theorem pos_geq {l : List El} (h : Asc (esR l)) {k : Bs} {m : Nat} (hk : Op.bytesLess (l.getD m zeroE).1 k = false) : ∀ i, m ≤ i → i < l.length → Op.bytesLess (l.getD i zeroE).1 k = false := fun i hi hl => by
  rcases Nat.lt_or_ge m i with h1 | h1
  · cases hb : Op.bytesLess (l.getD i zeroE).1 k with
    | false => rfl
    | true => rw [ls_trans (asc_el h h1 hl) hb] at hk; cases hk
  · obtain rfl : i = m := by omega
    exact hk
theorem mem_el {l : List El} {i : Nat} (hi : i < l.length) : l.getD i zeroE ∈ l := by
  rw [List.getD_eq_getElem?_getD, List.getElem?_eq_getElem hi]; exact List.getElem_mem hi
theorem has_at {l : List El} (h : Asc (esR l)) {i : Nat} (hi : i < l.length) : getE (esR l) (l.getD i zeroE).1 = some (valF (l.getD i zeroE).2) :=
  mem_getE h (List.mem_map_of_mem (f := entR) (mem_el hi))
theorem pos_has {l : List El} (h : Asc (esR l)) {k : Bs} {m : Nat} (hm : m < l.length) (hk : (l.getD m zeroE).1 = k) : hasE (esR l) k = true ∧ lookE (esR l) k = valF (l.getD m zeroE).2 := by
  have h1 := has_at h hm
  rw [hk] at h1
  unfold hasE lookE
  rw [h1]
  exact ⟨rfl, rfl⟩
theorem pos_not {l : List El} (h : Asc (esR l)) {k : Bs} {m : Nat} (hP : PosP l k m) (hn : ¬ (m < l.length ∧ (l.getD m zeroE).1 = k)) : hasE (esR l) k = false := by
  cases hh : hasE (esR l) k with
  | false => rfl
  | true =>
    exfalso
    have hmem := (mem_keys h k).2 hh
    unfold esR at hmem
    rw [List.map_map, List.mem_map] at hmem
    obtain ⟨e, he, hke⟩ := hmem
    obtain ⟨i, hi, rfl⟩ := List.mem_iff_getElem.1 he
    have hg : l.getD i zeroE = l[i] := by rw [List.getD_eq_getElem?_getD, List.getElem?_eq_getElem hi]; rfl
    have hk : (l.getD i zeroE).1 = k := by rw [hg]; exact hke
    rcases Nat.lt_trichotomy i m with h1 | h1 | h1
    · have := hP.2.1 i h1
      rw [hk, ls_irr] at this; cases this
    · subst h1; exact hn ⟨hi, hk⟩
    · have h2 := asc_el h h1 hi
      rw [hk] at h2
      have h3 := hP.2.2 m (Nat.le_refl _) (by omega)
      rw [h2] at h3; cases h3
/-- An element is put at its place. -/
theorem put_at {x : El} : ∀ {l : List El} {m : Nat}, PosP l x.1 m → hasE (esR l) x.1 = false → esR (l.take m ++ x :: l.drop m) = putE x.1 (valF x.2) (esR l)
  | [], m, _, _ => by rw [List.take_nil, List.drop_nil]; rfl
  | e :: r, 0, hP, hn => by
    have h0 := hP.2.2 0 (Nat.le_refl _) (by simp)
    have h0' : Op.bytesLess e.1 x.1 = false := h0
    have hne : ¬ e.1 = x.1 := fun he => by
      unfold hasE esR getE at hn
      rw [List.map_cons] at hn
      simp only [entR, he, if_true] at hn
      cases hn
    have h1 : Op.bytesLess x.1 e.1 = true := ls_tri hne (by rw [h0']; decide)
    show entR x :: entR e :: esR r = putE x.1 (valF x.2) (entR e :: esR r)
    unfold putE
    rw [if_neg (by exact hne), if_pos (by exact h1)]
    rfl
  | e :: r, m + 1, hP, hn => by
    have h0 : Op.bytesLess e.1 x.1 = true := hP.2.1 0 (by omega)
    have hne : ¬ e.1 = x.1 := fun he => by rw [he, ls_irr] at h0; cases h0
    have h1 : ¬ Op.bytesLess x.1 e.1 = true := fun h2 => by
      have := ls_trans h0 h2
      rw [ls_irr] at this; cases this
    have hP2 : PosP r x.1 m := ⟨by have := hP.1; rw [List.length_cons] at this; omega, fun i hi => hP.2.1 (i + 1) (by omega), fun i hi hl => hP.2.2 (i + 1) (by omega) (by rw [List.length_cons]; omega)⟩
    have hn2 : hasE (esR r) x.1 = false := by
      have h2 : hasE (entR e :: esR r) x.1 = hasE (esR r) x.1 := by
        unfold hasE
        rw [getE, if_neg (by exact hne)]
      rw [← h2]; exact hn
    have ih := put_at (x := x) hP2 hn2
    show entR e :: esR (r.take m ++ x :: r.drop m) = putE x.1 (valF x.2) (entR e :: esR r)
    rw [ih, putE, if_neg (by exact hne), if_neg (by exact h1)]
end Go.Proofs.YtnndnjnpkjpkpaaGreatDoor
