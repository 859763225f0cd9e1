/- What the reference implementation says of a fact's fields, as mathematics: it is what okF says. -/
import Derived.Test.YtnbeebndcgoalaaDoorFHlp
namespace Go.Proofs.YtnbeebndcgoalaaDoor
open Go.RowKit
theorem three_rows (w : World) (c d e : Array Value) (s t r : TypeId) : ∃ W0, ((w.alloc (.cells c s)).alloc (.cells d t)).alloc (.cells e r) = W0 ∧ W0.heap[w.heap.size]? = some (.cells c s (0, 0)) ∧ W0.heap[w.heap.size + 1]? = some (.cells d t (0, 0)) ∧ W0.heap[w.heap.size + 2]? = some (.cells e r (0, 0)) ∧ Below w.heap.size w W0 :=
  ⟨_, rfl, row_aft _ _ _ _ (row_aft _ _ _ _ (heap_new w _)), row_aft _ _ _ _ (by have := heap_new (w.alloc (.cells c s)) (.cells d t); simpa using this), by have := heap_new ((w.alloc (.cells c s)).alloc (.cells d t)) (.cells e r); simpa using this,
    (((Below.refl _ w).alloc (Nat.le_refl _) _).alloc (by simp) _).alloc (by simp; omega) _⟩
theorem eqB_me (u : Nat → Int) (s : ByteArray) : eqB u u s s = true := by rw [eqB_iff]; exact ⟨fun _ _ => rfl, rfl⟩
/-- The fields that a kind has, besides its kind, its version and its text. -/
def usL (k : Int) : List Nat :=
  if k = 1 then [1, 5, 6, 7, 8, 4, 13, 16]
  else if k = 2 then [6, 1, 16]
  else if k = 3 then [1, 7, 9, 10, 8, 11, 12, 14]
  else if k = 4 then [9, 11]
  else if k = 5 then [1, 3, 8, 13, 15]
  else if k = 6 then [5, 3, 8, 13, 15]
  else if k = 7 then [15, 3, 13]
  else if k = 8 then [1, 5, 3, 13]
  else if k = 9 then [11]
  else if k = 10 then [8, 11, 16]
  else []
/-- The numbers of a fact with those fields alone that its kind has. -/
def keepV (v : Nat → Int) : Nat → Int := fun i => if i = 0 then v 0 else if i = 2 then v 2 else if (usL (v 0)).contains i = true then v i else 0
/-- Its text. -/
def keepT (v : Nat → Int) (t : ByteArray) : ByteArray := if v 0 = 4 then t else if v 0 = 9 then t else ⟨#[]⟩
/-- The fields of its kind are as they must be. -/
def rgB (v : Nat → Int) (n : Int) : Bool :=
  if v 0 = 1 then (inB (v 1) 1 1000000 && inB (v 5) 1 1000000 && inB (v 6) 1 1000000 && inB (v 7) 1 1000000 && inB (v 8) 0 7 && inB (v 4) 0 3155759999 && inB (v 13) 0 86400000 && inB (v 16) 0 1)
  else if v 0 = 2 then (inB (v 6) 1 1000000 && inB (v 1) 1 1000000 && inB (v 16) 1 3)
  else if v 0 = 3 then (inB (v 1) 1 1000000 && inB (v 7) 1 1000000 && inB (v 9) 1 1000000 && inB (v 10) 1 2 && inB (v 8) 1 255 && decide (0 ≤ v 11) && decide (v 11 < v 12) && decide (v 12 ≤ 1200) && inB (v 14) 0 1000000)
  else if v 0 = 4 then (inB (v 9) 1 1000000 && inB (v 11) 0 1199 && decide (n ≤ 2000))
  else if v 0 = 5 then (inB (v 1) 1 1000000 && inB (v 3) 0 1199 && inB (v 8) 0 7 && inB (v 13) 0 10000000000 && inB (v 15) 0 20)
  else if v 0 = 6 then (inB (v 5) 1 1000000 && inB (v 3) 0 1199 && inB (v 8) 0 7 && inB (v 13) 0 1000000000 && inB (v 15) 0 20)
  else if v 0 = 7 then (inB (v 15) 1 20 && inB (v 3) 0 1199 && inB (v 13) 1 10000000)
  else if v 0 = 8 then (inB (v 1) 1 1000000 && inB (v 5) 1 1000 && inB (v 3) 0 1199 && inB (v 13) 0 100000000000)
  else if v 0 = 9 then (inB (v 11) 0 1199 && decide (n ≤ 2000))
  else if v 0 = 10 then (inB (v 8) 0 7 && inB (v 11) 0 1199 && inB (v 16) 1 2)
  else false
def baseK (k x : Int) : Nat → Int := fun i => if i = 0 then k else if i = 2 then x else 0
def setF (g : Nat → Int) (i : Nat) (x : Int) : Nat → Int := fun j => if j = i then x else g j
theorem setF_row (g : Nat → Int) (t : ByteArray) (x : Int) : ∀ i, i < 17 → (factC g t).setIfInBounds i (.int .i64 x) = factC (setF g i x) t

  | 0, _ => rfl
  | 1, _ => rfl
  | 2, _ => rfl
  | 3, _ => rfl
  | 4, _ => rfl
  | 5, _ => rfl
  | 6, _ => rfl
  | 7, _ => rfl
  | 8, _ => rfl
  | 9, _ => rfl
  | 10, _ => rfl
  | 11, _ => rfl
  | 12, _ => rfl
  | 13, _ => rfl
  | 14, _ => rfl
  | 15, _ => rfl
  | 16, _ => rfl
  | i + 17, h => absurd h (by omega)
theorem setF_cell {W : World} {b : Nat} {g : Nat → Int} {t : ByteArray} (i : Nat) (x : Int) (hi : i < 17) (h : W.heap[b]? = some (.cells (factC g t) 23 (0, 0))) : (W.setCell ⟨b, i, none⟩ (.int .i64 x)).heap[b]? = some (.cells (factC (setF g i x) t) 23 (0, 0)) := by
  rw [heap_setCell_same _ _ _ _ _ _ h, setF_row g t x i hi]
theorem setF_text {W : World} {b : Nat} {g : Nat → Int} {t : ByteArray} (s : ByteArray) (h : W.heap[b]? = some (.cells (factC g t) 23 (0, 0))) : (W.setCell ⟨b, 17, none⟩ (.string s)).heap[b]? = some (.cells (factC g s) 23 (0, 0)) := by
  rw [heap_setCell_same _ _ _ _ _ _ h]; rfl
theorem fact_cell {W : World} {b : Nat} {v : Nat → Int} {t : ByteArray} (i : Nat) (hi : i < 17) (h : W.heap[b]? = some (.cells (factC v t) 23 (0, 0))) : W.cell? ⟨b, i, none⟩ = some (.int .i64 (v i)) := by
  rw [cell_of_row _ _ _ _ _ _ h]
  match i, hi with
  | 0, _ => rfl
  | 1, _ => rfl
  | 2, _ => rfl
  | 3, _ => rfl
  | 4, _ => rfl
  | 5, _ => rfl
  | 6, _ => rfl
  | 7, _ => rfl
  | 8, _ => rfl
  | 9, _ => rfl
  | 10, _ => rfl
  | 11, _ => rfl
  | 12, _ => rfl
  | 13, _ => rfl
  | 14, _ => rfl
  | 15, _ => rfl
  | 16, _ => rfl
  | i + 17, hi => exact absurd hi (by omega)
theorem fact_text {W : World} {b : Nat} {v : Nat → Int} {t : ByteArray} (h : W.heap[b]? = some (.cells (factC v t) 23 (0, 0))) : W.cell? ⟨b, 17, none⟩ = some (.string t) := by
  rw [cell_of_row _ _ _ _ _ _ h]; rfl
theorem other_cell {W : World} {b d : Nat} {o : Obj} (i : Nat) (x : Value) (hd : b ≠ d) (h : W.heap[b]? = some o) : (W.setCell ⟨d, i, none⟩ x).heap[b]? = some o :=
  (heap_setCell_other _ _ _ _ hd).trans h

theorem keep_1 (v : Nat → Int) (t : ByteArray) (h : v 0 = 1) : factC (setF (setF (setF (setF (setF (setF (setF (setF (baseK 1 (v 2)) 1 (v 1)) 5 (v 5)) 6 (v 6)) 7 (v 7)) 8 (v 8)) 4 (v 4)) 13 (v 13)) 16 (v 16)) ⟨#[]⟩ = factC (keepV v) (keepT v t) := by
  simp [factC, setF, baseK, keepV, keepT, usL, h]
theorem rg_1 (v : Nat → Int) (n : Int) (h : v 0 = 1) : rgB v n = (inB (v 1) 1 1000000 && inB (v 5) 1 1000000 && inB (v 6) 1 1000000 && inB (v 7) 1 1000000 && inB (v 8) 0 7 && inB (v 4) 0 3155759999 && inB (v 13) 0 86400000 && inB (v 16) 0 1) := by
  unfold rgB
  simp [h]
theorem keep_2 (v : Nat → Int) (t : ByteArray) (h : v 0 = 2) : factC (setF (setF (setF (baseK 2 (v 2)) 6 (v 6)) 1 (v 1)) 16 (v 16)) ⟨#[]⟩ = factC (keepV v) (keepT v t) := by
  simp [factC, setF, baseK, keepV, keepT, usL, h]
theorem rg_2 (v : Nat → Int) (n : Int) (h : v 0 = 2) : rgB v n = (inB (v 6) 1 1000000 && inB (v 1) 1 1000000 && inB (v 16) 1 3) := by
  unfold rgB
  simp [h]
theorem keep_3 (v : Nat → Int) (t : ByteArray) (h : v 0 = 3) : factC (setF (setF (setF (setF (setF (setF (setF (setF (baseK 3 (v 2)) 1 (v 1)) 7 (v 7)) 9 (v 9)) 10 (v 10)) 8 (v 8)) 11 (v 11)) 12 (v 12)) 14 (v 14)) ⟨#[]⟩ = factC (keepV v) (keepT v t) := by
  simp [factC, setF, baseK, keepV, keepT, usL, h]
theorem rg_3 (v : Nat → Int) (n : Int) (h : v 0 = 3) : rgB v n = (inB (v 1) 1 1000000 && inB (v 7) 1 1000000 && inB (v 9) 1 1000000 && inB (v 10) 1 2 && inB (v 8) 1 255 && decide (0 ≤ v 11) && decide (v 11 < v 12) && decide (v 12 ≤ 1200) && inB (v 14) 0 1000000) := by
  unfold rgB
  simp [h]
theorem keep_4 (v : Nat → Int) (t : ByteArray) (h : v 0 = 4) : factC (setF (setF (baseK 4 (v 2)) 9 (v 9)) 11 (v 11)) t = factC (keepV v) (keepT v t) := by
  simp [factC, setF, baseK, keepV, keepT, usL, h]
theorem rg_4 (v : Nat → Int) (n : Int) (h : v 0 = 4) : rgB v n = (inB (v 9) 1 1000000 && inB (v 11) 0 1199 && decide (n ≤ 2000)) := by
  unfold rgB
  simp [h]
theorem keep_5 (v : Nat → Int) (t : ByteArray) (h : v 0 = 5) : factC (setF (setF (setF (setF (setF (baseK 5 (v 2)) 1 (v 1)) 3 (v 3)) 8 (v 8)) 13 (v 13)) 15 (v 15)) ⟨#[]⟩ = factC (keepV v) (keepT v t) := by
  simp [factC, setF, baseK, keepV, keepT, usL, h]
theorem rg_5 (v : Nat → Int) (n : Int) (h : v 0 = 5) : rgB v n = (inB (v 1) 1 1000000 && inB (v 3) 0 1199 && inB (v 8) 0 7 && inB (v 13) 0 10000000000 && inB (v 15) 0 20) := by
  unfold rgB
  simp [h]
theorem keep_6 (v : Nat → Int) (t : ByteArray) (h : v 0 = 6) : factC (setF (setF (setF (setF (setF (baseK 6 (v 2)) 5 (v 5)) 3 (v 3)) 8 (v 8)) 13 (v 13)) 15 (v 15)) ⟨#[]⟩ = factC (keepV v) (keepT v t) := by
  simp [factC, setF, baseK, keepV, keepT, usL, h]
theorem rg_6 (v : Nat → Int) (n : Int) (h : v 0 = 6) : rgB v n = (inB (v 5) 1 1000000 && inB (v 3) 0 1199 && inB (v 8) 0 7 && inB (v 13) 0 1000000000 && inB (v 15) 0 20) := by
  unfold rgB
  simp [h]
theorem keep_7 (v : Nat → Int) (t : ByteArray) (h : v 0 = 7) : factC (setF (setF (setF (baseK 7 (v 2)) 15 (v 15)) 3 (v 3)) 13 (v 13)) ⟨#[]⟩ = factC (keepV v) (keepT v t) := by
  simp [factC, setF, baseK, keepV, keepT, usL, h]
theorem rg_7 (v : Nat → Int) (n : Int) (h : v 0 = 7) : rgB v n = (inB (v 15) 1 20 && inB (v 3) 0 1199 && inB (v 13) 1 10000000) := by
  unfold rgB
  simp [h]
theorem keep_8 (v : Nat → Int) (t : ByteArray) (h : v 0 = 8) : factC (setF (setF (setF (setF (baseK 8 (v 2)) 1 (v 1)) 5 (v 5)) 3 (v 3)) 13 (v 13)) ⟨#[]⟩ = factC (keepV v) (keepT v t) := by
  simp [factC, setF, baseK, keepV, keepT, usL, h]
theorem rg_8 (v : Nat → Int) (n : Int) (h : v 0 = 8) : rgB v n = (inB (v 1) 1 1000000 && inB (v 5) 1 1000 && inB (v 3) 0 1199 && inB (v 13) 0 100000000000) := by
  unfold rgB
  simp [h]
theorem keep_9 (v : Nat → Int) (t : ByteArray) (h : v 0 = 9) : factC (setF (baseK 9 (v 2)) 11 (v 11)) t = factC (keepV v) (keepT v t) := by
  simp [factC, setF, baseK, keepV, keepT, usL, h]
theorem rg_9 (v : Nat → Int) (n : Int) (h : v 0 = 9) : rgB v n = (inB (v 11) 0 1199 && decide (n ≤ 2000)) := by
  unfold rgB
  simp [h]
theorem keep_10 (v : Nat → Int) (t : ByteArray) (h : v 0 = 10) : factC (setF (setF (setF (baseK 10 (v 2)) 8 (v 8)) 11 (v 11)) 16 (v 16)) ⟨#[]⟩ = factC (keepV v) (keepT v t) := by
  simp [factC, setF, baseK, keepV, keepT, usL, h]
theorem rg_10 (v : Nat → Int) (n : Int) (h : v 0 = 10) : rgB v n = (inB (v 8) 0 7 && inB (v 11) 0 1199 && inB (v 16) 1 2) := by
  unfold rgB
  simp [h]
theorem keep_none (v : Nat → Int) (t : ByteArray) (h : ¬ Known (v 0)) : factC (baseK (v 0) (v 2)) ⟨#[]⟩ = factC (keepV v) (keepT v t) := by
  unfold Known at h
  have e : usL (v 0) = [] := by
    unfold usL
    repeat rw [if_neg (by omega)]
  have e2 : keepT v t = ⟨#[]⟩ := by
    unfold keepT
    rw [if_neg (by omega), if_neg (by omega)]
  rw [e2]
  simp [factC, baseK, keepV, e]
theorem rg_none (v : Nat → Int) (n : Int) (h : ¬ Known (v 0)) : rgB v n = false := by
  unfold Known at h
  unfold rgB
  repeat rw [if_neg (by omega)]
theorem emp_text (t : ByteArray) : (t.toList = []) ↔ (t.size : Int) = 0 := by
  rw [Lib.toList_data]
  have e : t.size = t.data.toList.length := rfl
  rw [e]
  constructor
  · intro h; rw [h]; rfl
  · intro h
    exact List.eq_nil_of_length_eq_zero (by omega)
theorem inB_iff (x a b : Int) : inB x a b = true ↔ a ≤ x ∧ x ≤ b := decide_eq_true_iff
/-- What the reference implementation checks is what makes a fact valid. -/
theorem ref_valid (v : Nat → Int) (t : ByteArray) : (rgB v (t.size : Int) && eqB (keepV v) v (keepT v t) t && inB (v 2) 1 1000) = okT v t := by
  rw [Bool.eq_iff_iff]
  simp only [Bool.and_eq_true, eqB_iff, inB_iff]
  have hok : okT v t = true ↔ okF v (t.size : Int) := decide_eq_true_iff
  rw [hok]
  unfold okF InR
  simp only [Nat.forall_lt_succ_right, Nat.not_lt_zero, false_imp_iff, implies_true, true_and]
  have hpos : (0 : Int) ≤ (t.size : Int) := Int.natCast_nonneg _
  have hemp := emp_text t
  generalize (t.size : Int) = n at *
  by_cases hk : Known (v 0)
  · have hk' := hk
    unfold Known at hk
    obtain h | h | h | h | h | h | h | h | h | h : v 0 = 1 ∨ v 0 = 2 ∨ v 0 = 3 ∨ v 0 = 4 ∨ v 0 = 5 ∨ v 0 = 6 ∨ v 0 = 7 ∨ v 0 = 8 ∨ v 0 = 9 ∨ v 0 = 10 := by omega
    all_goals
      first
        | rw [rg_1 v n h]
        | rw [rg_2 v n h]
        | rw [rg_3 v n h]
        | rw [rg_4 v n h]
        | rw [rg_5 v n h]
        | rw [rg_6 v n h]
        | rw [rg_7 v n h]
        | rw [rg_8 v n h]
        | rw [rg_9 v n h]
        | rw [rg_10 v n h]
      simp only [msr, keepV, keepT, usL, rgL, h, Bool.and_eq_true, decide_eq_true_eq, inB_iff]
      simp [rgOf, hemp, Known]
      omega
  · rw [rg_none v n hk]
    simp [hk]
end Go.Proofs.YtnbeebndcgoalaaDoor
