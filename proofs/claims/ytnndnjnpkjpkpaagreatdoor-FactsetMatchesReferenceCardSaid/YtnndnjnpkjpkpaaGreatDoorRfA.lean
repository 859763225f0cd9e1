/- What the reference implementation says of a fact's fields, as mathematics: it is what okF says. | The reference implementation's fields and rest, for kinds 1: the fact with the fields of its kind alone, and whether they are as they must be. No further condition. -/
import Derived.Test.YtnndnjnpkjpkpaaGreatDoorFHlp
import Derived.Test.YtnndnjnpkjpkpaaGreatDoorMix
import Derived.Deep.RegionHeld3
namespace Go.Proofs.YtnndnjnpkjpkpaaGreatDoor
open Go.RowKit
theorem three_rows (w : World) (c d e : Array Value) (s t r : TypeId) : ∃ W0, ((w.alloc (.cells c s)).alloc (.cells d t)).alloc (.cells e r) = W0 ∧ W0.heap[w.heap.size]? = some (.cells c s (0, 0)) ∧ W0.heap[w.heap.size + 1]? = some (.cells d t (0, 0)) ∧ W0.heap[w.heap.size + 2]? = some (.cells e r (0, 0)) ∧ Below w.heap.size w W0 :=
  ⟨_, rfl, row_aft _ _ _ _ (row_aft _ _ _ _ (heap_new w _)), row_aft _ _ _ _ (by have := heap_new (w.alloc (.cells c s)) (.cells d t); simpa using this), by have := heap_new ((w.alloc (.cells c s)).alloc (.cells d t)) (.cells e r); simpa using this,
    (((Below.refl _ w).alloc (Nat.le_refl _) _).alloc (by simp) _).alloc (by simp; omega) _⟩
theorem eqB_me (u : Nat → Int) (s : ByteArray) : eqB u u s s = true := by rw [eqB_iff]; exact ⟨fun _ _ => rfl, rfl⟩
/-- The fields that a kind has, besides its kind, its version and its text. -/
def usL (k : Int) : List Nat :=
  if k = 1 then [1, 5, 6, 7, 8, 4, 13, 16]
  else if k = 2 then [6, 1, 16]
  else if k = 3 then [1, 7, 9, 10, 8, 11, 12, 14]
  else if k = 4 then [9, 11]
  else if k = 5 then [1, 3, 8, 13, 15]
  else if k = 6 then [5, 3, 8, 13, 15]
  else if k = 7 then [15, 3, 13]
  else if k = 8 then [1, 5, 3, 13]
  else if k = 9 then [11]
  else if k = 10 then [8, 11, 16]
  else []
/-- The numbers of a fact with those fields alone that its kind has. -/
def keepV (v : Nat → Int) : Nat → Int := fun i => if i = 0 then v 0 else if i = 2 then v 2 else if (usL (v 0)).contains i = true then v i else 0
/-- Its text. -/
def keepT (v : Nat → Int) (t : ByteArray) : ByteArray := if v 0 = 4 then t else if v 0 = 9 then t else ⟨#[]⟩
/-- The fields of its kind are as they must be. -/
def rgB (v : Nat → Int) (n : Int) : Bool :=
  if v 0 = 1 then (inB (v 1) 1 1000000 && inB (v 5) 1 1000000 && inB (v 6) 1 1000000 && inB (v 7) 1 1000000 && inB (v 8) 0 7 && inB (v 4) 0 3155759999 && inB (v 13) 0 86400000 && inB (v 16) 0 1)
  else if v 0 = 2 then (inB (v 6) 1 1000000 && inB (v 1) 1 1000000 && inB (v 16) 1 3)
  else if v 0 = 3 then (inB (v 1) 1 1000000 && inB (v 7) 1 1000000 && inB (v 9) 1 1000000 && inB (v 10) 1 2 && inB (v 8) 1 255 && decide (0 ≤ v 11) && decide (v 11 < v 12) && decide (v 12 ≤ 1200) && inB (v 14) 0 1000000)
  else if v 0 = 4 then (inB (v 9) 1 1000000 && inB (v 11) 0 1199 && decide (n ≤ 2000))
  else if v 0 = 5 then (inB (v 1) 1 1000000 && inB (v 3) 0 1199 && inB (v 8) 0 7 && inB (v 13) 0 10000000000 && inB (v 15) 0 20)
  else if v 0 = 6 then (inB (v 5) 1 1000000 && inB (v 3) 0 1199 && inB (v 8) 0 7 && inB (v 13) 0 1000000000 && inB (v 15) 0 20)
  else if v 0 = 7 then (inB (v 15) 1 20 && inB (v 3) 0 1199 && inB (v 13) 1 10000000)
  else if v 0 = 8 then (inB (v 1) 1 1000000 && inB (v 5) 1 1000 && inB (v 3) 0 1199 && inB (v 13) 0 100000000000)
  else if v 0 = 9 then (inB (v 11) 0 1199 && decide (n ≤ 2000))
  else if v 0 = 10 then (inB (v 8) 0 7 && inB (v 11) 0 1199 && inB (v 16) 1 2)
  else false
def baseK (k x : Int) : Nat → Int := fun i => if i = 0 then k else if i = 2 then x else 0
def setF (g : Nat → Int) (i : Nat) (x : Int) : Nat → Int := fun j => if j = i then x else g j
theorem setF_row (g : Nat → Int) (t : ByteArray) (x : Int) : ∀ i, i < 17 → (factC g t).setIfInBounds i (.int .i64 x) = factC (setF g i x) t

  | 0, _ => rfl
  | 1, _ => rfl
  | 2, _ => rfl
  | 3, _ => rfl
  | 4, _ => rfl
  | 5, _ => rfl
  | 6, _ => rfl
  | 7, _ => rfl
  | 8, _ => rfl
  | 9, _ => rfl
  | 10, _ => rfl
  | 11, _ => rfl
  | 12, _ => rfl
  | 13, _ => rfl
  | 14, _ => rfl
  | 15, _ => rfl
  | 16, _ => rfl
  | i + 17, h => absurd h (by omega)
theorem setF_cell {W : World} {b : Nat} {g : Nat → Int} {t : ByteArray} (i : Nat) (x : Int) (hi : i < 17) (h : W.heap[b]? = some (.cells (factC g t) 40 (0, 0))) : (W.setCell ⟨b, i, none⟩ (.int .i64 x)).heap[b]? = some (.cells (factC (setF g i x) t) 40 (0, 0)) := by
  rw [heap_setCell_same _ _ _ _ _ _ h, setF_row g t x i hi]
theorem setF_text {W : World} {b : Nat} {g : Nat → Int} {t : ByteArray} (s : ByteArray) (h : W.heap[b]? = some (.cells (factC g t) 40 (0, 0))) : (W.setCell ⟨b, 17, none⟩ (.string s)).heap[b]? = some (.cells (factC g s) 40 (0, 0)) := by
  rw [heap_setCell_same _ _ _ _ _ _ h]; rfl
theorem fact_cell {W : World} {b : Nat} {v : Nat → Int} {t : ByteArray} (i : Nat) (hi : i < 17) (h : W.heap[b]? = some (.cells (factC v t) 40 (0, 0))) : W.cell? ⟨b, i, none⟩ = some (.int .i64 (v i)) := by
  rw [cell_of_row _ _ _ _ _ _ h]
  match i, hi with
  | 0, _ => rfl
  | 1, _ => rfl
  | 2, _ => rfl
  | 3, _ => rfl
  | 4, _ => rfl
  | 5, _ => rfl
  | 6, _ => rfl
  | 7, _ => rfl
  | 8, _ => rfl
  | 9, _ => rfl
  | 10, _ => rfl
  | 11, _ => rfl
  | 12, _ => rfl
  | 13, _ => rfl
  | 14, _ => rfl
  | 15, _ => rfl
  | 16, _ => rfl
  | i + 17, hi => exact absurd hi (by omega)
theorem fact_text {W : World} {b : Nat} {v : Nat → Int} {t : ByteArray} (h : W.heap[b]? = some (.cells (factC v t) 40 (0, 0))) : W.cell? ⟨b, 17, none⟩ = some (.string t) := by
  rw [cell_of_row _ _ _ _ _ _ h]; rfl
theorem other_cell {W : World} {b d : Nat} {o : Obj} (i : Nat) (x : Value) (hd : b ≠ d) (h : W.heap[b]? = some o) : (W.setCell ⟨d, i, none⟩ x).heap[b]? = some o :=
  (heap_setCell_other _ _ _ _ hd).trans h

theorem keep_1 (v : Nat → Int) (t : ByteArray) (h : v 0 = 1) : factC (setF (setF (setF (setF (setF (setF (setF (setF (baseK 1 (v 2)) 1 (v 1)) 5 (v 5)) 6 (v 6)) 7 (v 7)) 8 (v 8)) 4 (v 4)) 13 (v 13)) 16 (v 16)) ⟨#[]⟩ = factC (keepV v) (keepT v t) := by
  simp [factC, setF, baseK, keepV, keepT, usL, h]
theorem rg_1 (v : Nat → Int) (n : Int) (h : v 0 = 1) : rgB v n = (inB (v 1) 1 1000000 && inB (v 5) 1 1000000 && inB (v 6) 1 1000000 && inB (v 7) 1 1000000 && inB (v 8) 0 7 && inB (v 4) 0 3155759999 && inB (v 13) 0 86400000 && inB (v 16) 0 1) := by
  unfold rgB
  simp [h]
theorem keep_2 (v : Nat → Int) (t : ByteArray) (h : v 0 = 2) : factC (setF (setF (setF (baseK 2 (v 2)) 6 (v 6)) 1 (v 1)) 16 (v 16)) ⟨#[]⟩ = factC (keepV v) (keepT v t) := by
  simp [factC, setF, baseK, keepV, keepT, usL, h]
theorem rg_2 (v : Nat → Int) (n : Int) (h : v 0 = 2) : rgB v n = (inB (v 6) 1 1000000 && inB (v 1) 1 1000000 && inB (v 16) 1 3) := by
  unfold rgB
  simp [h]
theorem keep_3 (v : Nat → Int) (t : ByteArray) (h : v 0 = 3) : factC (setF (setF (setF (setF (setF (setF (setF (setF (baseK 3 (v 2)) 1 (v 1)) 7 (v 7)) 9 (v 9)) 10 (v 10)) 8 (v 8)) 11 (v 11)) 12 (v 12)) 14 (v 14)) ⟨#[]⟩ = factC (keepV v) (keepT v t) := by
  simp [factC, setF, baseK, keepV, keepT, usL, h]
theorem rg_3 (v : Nat → Int) (n : Int) (h : v 0 = 3) : rgB v n = (inB (v 1) 1 1000000 && inB (v 7) 1 1000000 && inB (v 9) 1 1000000 && inB (v 10) 1 2 && inB (v 8) 1 255 && decide (0 ≤ v 11) && decide (v 11 < v 12) && decide (v 12 ≤ 1200) && inB (v 14) 0 1000000) := by
  unfold rgB
  simp [h]
theorem keep_4 (v : Nat → Int) (t : ByteArray) (h : v 0 = 4) : factC (setF (setF (baseK 4 (v 2)) 9 (v 9)) 11 (v 11)) t = factC (keepV v) (keepT v t) := by
  simp [factC, setF, baseK, keepV, keepT, usL, h]
theorem rg_4 (v : Nat → Int) (n : Int) (h : v 0 = 4) : rgB v n = (inB (v 9) 1 1000000 && inB (v 11) 0 1199 && decide (n ≤ 2000)) := by
  unfold rgB
  simp [h]
theorem keep_5 (v : Nat → Int) (t : ByteArray) (h : v 0 = 5) : factC (setF (setF (setF (setF (setF (baseK 5 (v 2)) 1 (v 1)) 3 (v 3)) 8 (v 8)) 13 (v 13)) 15 (v 15)) ⟨#[]⟩ = factC (keepV v) (keepT v t) := by
  simp [factC, setF, baseK, keepV, keepT, usL, h]
theorem rg_5 (v : Nat → Int) (n : Int) (h : v 0 = 5) : rgB v n = (inB (v 1) 1 1000000 && inB (v 3) 0 1199 && inB (v 8) 0 7 && inB (v 13) 0 10000000000 && inB (v 15) 0 20) := by
  unfold rgB
  simp [h]
theorem keep_6 (v : Nat → Int) (t : ByteArray) (h : v 0 = 6) : factC (setF (setF (setF (setF (setF (baseK 6 (v 2)) 5 (v 5)) 3 (v 3)) 8 (v 8)) 13 (v 13)) 15 (v 15)) ⟨#[]⟩ = factC (keepV v) (keepT v t) := by
  simp [factC, setF, baseK, keepV, keepT, usL, h]
theorem rg_6 (v : Nat → Int) (n : Int) (h : v 0 = 6) : rgB v n = (inB (v 5) 1 1000000 && inB (v 3) 0 1199 && inB (v 8) 0 7 && inB (v 13) 0 1000000000 && inB (v 15) 0 20) := by
  unfold rgB
  simp [h]
theorem keep_7 (v : Nat → Int) (t : ByteArray) (h : v 0 = 7) : factC (setF (setF (setF (baseK 7 (v 2)) 15 (v 15)) 3 (v 3)) 13 (v 13)) ⟨#[]⟩ = factC (keepV v) (keepT v t) := by
  simp [factC, setF, baseK, keepV, keepT, usL, h]
theorem rg_7 (v : Nat → Int) (n : Int) (h : v 0 = 7) : rgB v n = (inB (v 15) 1 20 && inB (v 3) 0 1199 && inB (v 13) 1 10000000) := by
  unfold rgB
  simp [h]
theorem keep_8 (v : Nat → Int) (t : ByteArray) (h : v 0 = 8) : factC (setF (setF (setF (setF (baseK 8 (v 2)) 1 (v 1)) 5 (v 5)) 3 (v 3)) 13 (v 13)) ⟨#[]⟩ = factC (keepV v) (keepT v t) := by
  simp [factC, setF, baseK, keepV, keepT, usL, h]
theorem rg_8 (v : Nat → Int) (n : Int) (h : v 0 = 8) : rgB v n = (inB (v 1) 1 1000000 && inB (v 5) 1 1000 && inB (v 3) 0 1199 && inB (v 13) 0 100000000000) := by
  unfold rgB
  simp [h]
theorem keep_9 (v : Nat → Int) (t : ByteArray) (h : v 0 = 9) : factC (setF (baseK 9 (v 2)) 11 (v 11)) t = factC (keepV v) (keepT v t) := by
  simp [factC, setF, baseK, keepV, keepT, usL, h]
theorem rg_9 (v : Nat → Int) (n : Int) (h : v 0 = 9) : rgB v n = (inB (v 11) 0 1199 && decide (n ≤ 2000)) := by
  unfold rgB
  simp [h]
theorem keep_10 (v : Nat → Int) (t : ByteArray) (h : v 0 = 10) : factC (setF (setF (setF (baseK 10 (v 2)) 8 (v 8)) 11 (v 11)) 16 (v 16)) ⟨#[]⟩ = factC (keepV v) (keepT v t) := by
  simp [factC, setF, baseK, keepV, keepT, usL, h]
theorem rg_10 (v : Nat → Int) (n : Int) (h : v 0 = 10) : rgB v n = (inB (v 8) 0 7 && inB (v 11) 0 1199 && inB (v 16) 1 2) := by
  unfold rgB
  simp [h]
theorem keep_none (v : Nat → Int) (t : ByteArray) (h : ¬ Known (v 0)) : factC (baseK (v 0) (v 2)) ⟨#[]⟩ = factC (keepV v) (keepT v t) := by
  unfold Known at h
  have e : usL (v 0) = [] := by
    unfold usL
    repeat rw [if_neg (by omega)]
  have e2 : keepT v t = ⟨#[]⟩ := by
    unfold keepT
    rw [if_neg (by omega), if_neg (by omega)]
  rw [e2]
  simp [factC, baseK, keepV, e]
theorem rg_none (v : Nat → Int) (n : Int) (h : ¬ Known (v 0)) : rgB v n = false := by
  unfold Known at h
  unfold rgB
  repeat rw [if_neg (by omega)]
theorem emp_text (t : ByteArray) : (t.toList = []) ↔ (t.size : Int) = 0 := by
  rw [Lib.toList_data]
  have e : t.size = t.data.toList.length := rfl
  rw [e]
  constructor
  · intro h; rw [h]; rfl
  · intro h
    exact List.eq_nil_of_length_eq_zero (by omega)
theorem inB_iff (x a b : Int) : inB x a b = true ↔ a ≤ x ∧ x ≤ b := decide_eq_true_iff
/-- What the reference implementation checks is what makes a fact valid. -/
theorem ref_valid (v : Nat → Int) (t : ByteArray) : (rgB v (t.size : Int) && eqB (keepV v) v (keepT v t) t && inB (v 2) 1 1000) = okT v t := by
  rw [Bool.eq_iff_iff]
  simp only [Bool.and_eq_true, eqB_iff, inB_iff]
  have hok : okT v t = true ↔ okF v (t.size : Int) := decide_eq_true_iff
  rw [hok]
  unfold okF InR
  simp only [Nat.forall_lt_succ_right, Nat.not_lt_zero, false_imp_iff, implies_true, true_and]
  have hpos : (0 : Int) ≤ (t.size : Int) := Int.natCast_nonneg _
  have hemp := emp_text t
  generalize (t.size : Int) = n at *
  by_cases hk : Known (v 0)
  · have hk' := hk
    unfold Known at hk
    obtain h | h | h | h | h | h | h | h | h | h : v 0 = 1 ∨ v 0 = 2 ∨ v 0 = 3 ∨ v 0 = 4 ∨ v 0 = 5 ∨ v 0 = 6 ∨ v 0 = 7 ∨ v 0 = 8 ∨ v 0 = 9 ∨ v 0 = 10 := by omega
    all_goals
      first
        | rw [rg_1 v n h]
        | rw [rg_2 v n h]
        | rw [rg_3 v n h]
        | rw [rg_4 v n h]
        | rw [rg_5 v n h]
        | rw [rg_6 v n h]
        | rw [rg_7 v n h]
        | rw [rg_8 v n h]
        | rw [rg_9 v n h]
        | rw [rg_10 v n h]
      simp only [msr, keepV, keepT, usL, rgL, h, Bool.and_eq_true, decide_eq_true_eq, inB_iff]
      simp [rgOf, hemp, Known]
      omega
  · rw [rg_none v n hk]
    simp [hk]
end Go.Proofs.YtnndnjnpkjpkpaaGreatDoor
namespace Go.Proofs.YtnndnjnpkjpkpaaGreatDoor
open Go.RowKit

set_option maxRecDepth 100000 in
set_option maxHeartbeats 8000000 in
theorem fields_1 (v : Nat → Int) (t : ByteArray) (w : World) (hk : v 0 = 1) :
    Calls Tryz.prog 48 #[.agg (factC v t)] w fun e W' => e = .returned (.tuple #[.agg (factC (keepV v) (keepT v t)), .bool (inB (v 1) 1 1000000 && inB (v 5) 1 1000000 && inB (v 6) 1 1000000 && inB (v 7) 1 1000000 && inB (v 8) 0 7 && inB (v 4) 0 3155759999 && inB (v 13) 0 86400000 && inB (v 16) 0 1)]) ∧ Below w.heap.size w W' := by
  have H0 := Lib.hid (fun W => id_calls (v 1) W)
  generalize inB (v 1) 1 1000000 = e0 at *
  have H1 := Lib.hid (fun W => id_calls (v 5) W)
  generalize inB (v 5) 1 1000000 = e1 at *
  have H2 := Lib.hid (fun W => id_calls (v 6) W)
  generalize inB (v 6) 1 1000000 = e2 at *
  have H3 := Lib.hid (fun W => id_calls (v 7) W)
  generalize inB (v 7) 1 1000000 = e3 at *
  have H4 := Lib.hid (fun W => territory_calls (v 8) W)
  generalize inB (v 8) 0 7 = e4 at *
  have H5 := Lib.hid (fun W => within_calls (v 4) 0 3155759999 W)
  generalize inB (v 4) 0 3155759999 = e5 at *
  have H6 := Lib.hid (fun W => within_calls (v 13) 0 86400000 W)
  generalize inB (v 13) 0 86400000 = e6 at *
  have H7 := Lib.hid (fun W => within_calls (v 16) 0 1 W)
  generalize inB (v 16) 0 1 = e7 at *
  go_enter Tryz.func48, Tryz.ntmps48
  go_upto_region 1 with (fail)
  obtain ⟨W0, hW0, f0, r0, b0⟩ := two_rows w (factC v t) (factC zeroV ⟨#[]⟩) 40 40
  rw [hW0]
  clear hW0
  have F0 := Lib.hid f0
  have R0 := Lib.hid r0
  have B0 := Lib.hid b0
  clear f0 r0 b0
  obtain ⟨c0, -, c2, -⟩ := row18 F0.out
  rw [hk] at c0
  have honeG := factC_one (baseK 1 (v 2)) ⟨#[]⟩
  go_upto_region 2 with (first
      | (refine wpList_store_row rfl 40 _ _ rfl W0.heap.size (factC (baseK 1 (v 2)) ⟨#[]⟩) rfl rfl 40 _ (heap_new W0 _) (hiC _ _) rfl honeG ?_)
      | (refine wpList_load_fact rfl _ rfl w.heap.size rfl v t F0.out ?_)
      | (refine wpList_load_fact rfl _ rfl (w.heap.size + 1) rfl zeroV ⟨#[]⟩ R0.out ?_))
  have hltFG : w.heap.size < W0.heap.size := (Array.getElem?_eq_some_iff.1 F0.out).1
  have hltRG : (w.heap.size + 1) < W0.heap.size := (Array.getElem?_eq_some_iff.1 R0.out).1
  have hBG : w.heap.size ≤ W0.heap.size := B0.out.size
  obtain ⟨W1, hW1, F1, R1, G1, B1, hs1⟩ : ∃ W1, (W0.alloc (.cells (factC zeroV ⟨#[]⟩) 40)).setRow W0.heap.size (factC (baseK 1 (v 2)) ⟨#[]⟩) = W1 ∧ Hid (W1.heap[w.heap.size]? = some (.cells (factC v t) 40 (0, 0))) ∧ Hid (W1.heap[(w.heap.size + 1)]? = some (.cells (factC zeroV ⟨#[]⟩) 40 (0, 0))) ∧ Hid (W1.heap[W0.heap.size]? = some (.cells (factC (baseK 1 (v 2)) ⟨#[]⟩) 40 (0, 0))) ∧ Hid (Below w.heap.size w W1) ∧ Hid (W0.heap.size < W1.heap.size) :=
    ⟨_, rfl, Lib.hid ((setRow_other _ _ _ _ (Nat.ne_of_lt (Array.getElem?_eq_some_iff.1 F0.out).1)).trans (row_aft _ _ _ _ F0.out)), Lib.hid ((setRow_other _ _ _ _ (Nat.ne_of_lt (Array.getElem?_eq_some_iff.1 R0.out).1)).trans (row_aft _ _ _ _ R0.out)), Lib.hid (setRow_heap _ _ _ _ _ _ (heap_new W0 _)), Lib.hid (below_setRow' (B0.out.alloc B0.out.size _) _ _ B0.out.size), Lib.hid (by simp)⟩
  rw [hW1]
  clear hW1 F0 R0 B0
  have hleG := hBG
  clear hBG
  generalize W0.heap.size = AG at *
  clear c0 c2
  obtain ⟨c0, -⟩ := row18 F1.out
  rw [hk] at c0
  go_upto_region 4 with (first
      | (refine wpList_load_fact rfl _ rfl w.heap.size rfl v t F1.out ?_)
      | (refine wpList_load_fact rfl _ rfl (w.heap.size + 1) rfl zeroV ⟨#[]⟩ R1.out ?_)
      | (refine wpList_load_fact rfl _ rfl AG rfl (baseK 1 (v 2)) ⟨#[]⟩ G1.out ?_))
  clear c0
  obtain ⟨-, d1, -, -, -, d5, d6, d7, -⟩ := row18 F1.out
  obtain ⟨-, c1, -, -, -, c5, c6, c7, -⟩ := row18 G1.out
  have z1 : W1.frozen? ⟨AG, 1, none⟩ = false := frozen_of_row _ _ _ _ _ G1.out
  have z5 : W1.frozen? ⟨AG, 5, none⟩ = false := frozen_of_row _ _ _ _ _ G1.out
  have z6 : W1.frozen? ⟨AG, 6, none⟩ = false := frozen_of_row _ _ _ _ _ G1.out
  have z7 : W1.frozen? ⟨AG, 7, none⟩ = false := frozen_of_row _ _ _ _ _ G1.out
  have ne1 : ¬ AG = w.heap.size := by omega
  have ne2 : ¬ w.heap.size = AG := by omega
  go_region_held3 (fun w' => w'.cell? ⟨w.heap.size, 1, none⟩ = some (.int .i64 (v 1)) ∧ w'.cell? ⟨w.heap.size, 5, none⟩ = some (.int .i64 (v 5)) ∧ w'.cell? ⟨w.heap.size, 6, none⟩ = some (.int .i64 (v 6)) ∧ w'.cell? ⟨w.heap.size, 7, none⟩ = some (.int .i64 (v 7))) (go_keep) (fail)
  go_upto_region 5 with (first
      | (refine wpList_load_fact rfl _ rfl w.heap.size rfl v t F1.out ?_)
      | (refine wpList_load_fact rfl _ rfl (w.heap.size + 1) rfl zeroV ⟨#[]⟩ R1.out ?_)
      | (refine wpList_load_fact rfl _ rfl AG rfl (baseK 1 (v 2)) ⟨#[]⟩ G1.out ?_))
  obtain ⟨W2, hW2, F2, G2, R2, B2⟩ : ∃ W2, ((((W1.setCell ⟨AG, 1, none⟩ (.int .i64 (v 1))).setCell ⟨AG, 5, none⟩ (.int .i64 (v 5))).setCell ⟨AG, 6, none⟩ (.int .i64 (v 6))).setCell ⟨AG, 7, none⟩ (.int .i64 (v 7))) = W2 ∧ Hid (W2.heap[w.heap.size]? = some (.cells (factC v t) 40 (0, 0))) ∧ Hid (W2.heap[AG]? = some (.cells (factC (setF (setF (setF (setF (baseK 1 (v 2)) 1 (v 1)) 5 (v 5)) 6 (v 6)) 7 (v 7)) ⟨#[]⟩) 40 (0, 0))) ∧ Hid (W2.heap[(w.heap.size + 1)]? = some (.cells (factC zeroV ⟨#[]⟩) 40 (0, 0))) ∧ Hid (Below w.heap.size w W2) :=
    ⟨_, rfl, Lib.hid (other_cell 7 _ (by omega) (other_cell 6 _ (by omega) (other_cell 5 _ (by omega) (other_cell 1 _ (by omega) F1.out)))), Lib.hid (setF_cell 7 (v 7) (by omega) (setF_cell 6 (v 6) (by omega) (setF_cell 5 (v 5) (by omega) (setF_cell 1 (v 1) (by omega) G1.out)))), Lib.hid (other_cell 7 _ (by omega) (other_cell 6 _ (by omega) (other_cell 5 _ (by omega) (other_cell 1 _ (by omega) R1.out)))), Lib.hid ((((B1.out.setCell (p := ⟨AG, 1, none⟩) (show w.heap.size ≤ AG by omega) _).setCell (p := ⟨AG, 5, none⟩) (show w.heap.size ≤ AG by omega) _).setCell (p := ⟨AG, 6, none⟩) (show w.heap.size ≤ AG by omega) _).setCell (p := ⟨AG, 7, none⟩) (show w.heap.size ≤ AG by omega) _)⟩
  rw [hW2]
  clear hW2 F1 R1 G1 B1
  clear c1 z1 d1 c5 z5 d5 c6 z6 d6 c7 z7 d7
  obtain ⟨-, -, -, -, d4, -, -, -, d8, -, -, -, -, d13, -, -, d16, -⟩ := row18 F2.out
  obtain ⟨-, -, -, -, c4, -, -, -, c8, -, -, -, -, c13, -, -, c16, -⟩ := row18 G2.out
  have z8 : W2.frozen? ⟨AG, 8, none⟩ = false := frozen_of_row _ _ _ _ _ G2.out
  have z4 : W2.frozen? ⟨AG, 4, none⟩ = false := frozen_of_row _ _ _ _ _ G2.out
  have z13 : W2.frozen? ⟨AG, 13, none⟩ = false := frozen_of_row _ _ _ _ _ G2.out
  have z16 : W2.frozen? ⟨AG, 16, none⟩ = false := frozen_of_row _ _ _ _ _ G2.out
  have ne1 : ¬ AG = w.heap.size := by omega
  have ne2 : ¬ w.heap.size = AG := by omega
  go_region_held3 (fun w' => w'.cell? ⟨w.heap.size, 8, none⟩ = some (.int .i64 (v 8)) ∧ w'.cell? ⟨w.heap.size, 4, none⟩ = some (.int .i64 (v 4)) ∧ w'.cell? ⟨w.heap.size, 13, none⟩ = some (.int .i64 (v 13)) ∧ w'.cell? ⟨w.heap.size, 16, none⟩ = some (.int .i64 (v 16))) (go_keep) (fail)
  go_upto_region 6 with (first
      | (refine wpList_load_fact rfl _ rfl w.heap.size rfl v t F2.out ?_)
      | (refine wpList_load_fact rfl _ rfl (w.heap.size + 1) rfl zeroV ⟨#[]⟩ R2.out ?_)
      | (refine wpList_load_fact rfl _ rfl AG rfl (setF (setF (setF (setF (baseK 1 (v 2)) 1 (v 1)) 5 (v 5)) 6 (v 6)) 7 (v 7)) ⟨#[]⟩ G2.out ?_))
  obtain ⟨W3, hW3, F3, G3, R3, B3⟩ : ∃ W3, ((((W2.setCell ⟨AG, 8, none⟩ (.int .i64 (v 8))).setCell ⟨AG, 4, none⟩ (.int .i64 (v 4))).setCell ⟨AG, 13, none⟩ (.int .i64 (v 13))).setCell ⟨AG, 16, none⟩ (.int .i64 (v 16))) = W3 ∧ Hid (W3.heap[w.heap.size]? = some (.cells (factC v t) 40 (0, 0))) ∧ Hid (W3.heap[AG]? = some (.cells (factC (setF (setF (setF (setF (setF (setF (setF (setF (baseK 1 (v 2)) 1 (v 1)) 5 (v 5)) 6 (v 6)) 7 (v 7)) 8 (v 8)) 4 (v 4)) 13 (v 13)) 16 (v 16)) ⟨#[]⟩) 40 (0, 0))) ∧ Hid (W3.heap[(w.heap.size + 1)]? = some (.cells (factC zeroV ⟨#[]⟩) 40 (0, 0))) ∧ Hid (Below w.heap.size w W3) :=
    ⟨_, rfl, Lib.hid (other_cell 16 _ (by omega) (other_cell 13 _ (by omega) (other_cell 4 _ (by omega) (other_cell 8 _ (by omega) F2.out)))), Lib.hid (setF_cell 16 (v 16) (by omega) (setF_cell 13 (v 13) (by omega) (setF_cell 4 (v 4) (by omega) (setF_cell 8 (v 8) (by omega) G2.out)))), Lib.hid (other_cell 16 _ (by omega) (other_cell 13 _ (by omega) (other_cell 4 _ (by omega) (other_cell 8 _ (by omega) R2.out)))), Lib.hid ((((B2.out.setCell (p := ⟨AG, 8, none⟩) (show w.heap.size ≤ AG by omega) _).setCell (p := ⟨AG, 4, none⟩) (show w.heap.size ≤ AG by omega) _).setCell (p := ⟨AG, 13, none⟩) (show w.heap.size ≤ AG by omega) _).setCell (p := ⟨AG, 16, none⟩) (show w.heap.size ≤ AG by omega) _)⟩
  rw [hW3]
  clear hW3 F2 R2 G2 B2
  clear c8 z8 d8 c4 z4 d4 c13 z13 d13 c16 z16 d16
  have hkeep := keep_1 v t hk
  rw [hkeep] at G3
  clear hkeep hk
  have hone := factC_one (keepV v) (keepT v t)
  rcases e0 with _ | _
  · refine wp_region_mix (fun w' => w'.heap[w.heap.size]? = some (.cells (factC v t) 40 (0, 0)) ∧ w'.heap[AG]? = some (.cells (factC (keepV v) (keepT v t)) 40 (0, 0))) [true, true, true, true, true, true, true, true, true, true, true, true, true, true, true, true, true, true, true, true, true, true, true, true, true, true, true, true, true, true, true, true, true, true, true, true, true, true, true, false, true] (by kernel_rfl) (by kernel_rfl) ⟨F3.out, G3.out⟩ ?_
    refine mix_load_fact (by rfl) _ rfl AG rfl (keepV v) (keepT v t) (fun _ hc => hc.2) ?_
    simp only [Act.put, List.setIfInBounds_toArray, List.set_cons_zero, List.set_cons_succ]
    refine mix_val (.pointer (some ⟨w.heap.size, 1, none⟩)) (by rfl) (fun _ _ => by go_simp) ?_
    simp only [Act.put, List.setIfInBounds_toArray, List.set_cons_zero, List.set_cons_succ]
    refine mix_load_int (by rfl) _ rfl ⟨w.heap.size, 1, none⟩ rfl (.int .i64 (v 1)) (fun _ hc => fact_cell 1 (by decide) hc.1) ?_
    simp only [Act.put, List.setIfInBounds_toArray, List.set_cons_zero, List.set_cons_succ]
    refine mix_call 64 #[.int .i64 (v 1)] (.bool false) (by rfl) (fun _ => by go_simp) H0.out ?_
    simp only [Act.put, List.setIfInBounds_toArray, List.set_cons_zero, List.set_cons_succ]
    refine mix_val (.bool false) (by rfl) (fun _ _ => by rfl) ?_
    simp only [Act.put, List.setIfInBounds_toArray, List.set_cons_zero, List.set_cons_succ]
    refine mix_off (by rfl) ?_
    simp only [Act.put, List.setIfInBounds_toArray, List.set_cons_zero, List.set_cons_succ]
    refine mix_off (by rfl) ?_
    simp only [Act.put, List.setIfInBounds_toArray, List.set_cons_zero, List.set_cons_succ]
    refine mix_off (by rfl) ?_
    simp only [Act.put, List.setIfInBounds_toArray, List.set_cons_zero, List.set_cons_succ]
    refine mix_val (.bool false) (by rfl) (fun _ _ => by rfl) ?_
    simp only [Act.put, List.setIfInBounds_toArray, List.set_cons_zero, List.set_cons_succ]
    refine mix_val (.bool false) (by rfl) (fun _ _ => by rfl) ?_
    simp only [Act.put, List.setIfInBounds_toArray, List.set_cons_zero, List.set_cons_succ]
    refine mix_off (by rfl) ?_
    simp only [Act.put, List.setIfInBounds_toArray, List.set_cons_zero, List.set_cons_succ]
    refine mix_off (by rfl) ?_
    simp only [Act.put, List.setIfInBounds_toArray, List.set_cons_zero, List.set_cons_succ]
    refine mix_off (by rfl) ?_
    simp only [Act.put, List.setIfInBounds_toArray, List.set_cons_zero, List.set_cons_succ]
    refine mix_val (.bool false) (by rfl) (fun _ _ => by rfl) ?_
    simp only [Act.put, List.setIfInBounds_toArray, List.set_cons_zero, List.set_cons_succ]
    refine mix_val (.bool false) (by rfl) (fun _ _ => by rfl) ?_
    simp only [Act.put, List.setIfInBounds_toArray, List.set_cons_zero, List.set_cons_succ]
    refine mix_off (by rfl) ?_
    simp only [Act.put, List.setIfInBounds_toArray, List.set_cons_zero, List.set_cons_succ]
    refine mix_off (by rfl) ?_
    simp only [Act.put, List.setIfInBounds_toArray, List.set_cons_zero, List.set_cons_succ]
    refine mix_off (by rfl) ?_
    simp only [Act.put, List.setIfInBounds_toArray, List.set_cons_zero, List.set_cons_succ]
    refine mix_val (.bool false) (by rfl) (fun _ _ => by rfl) ?_
    simp only [Act.put, List.setIfInBounds_toArray, List.set_cons_zero, List.set_cons_succ]
    refine mix_val (.bool false) (by rfl) (fun _ _ => by rfl) ?_
    simp only [Act.put, List.setIfInBounds_toArray, List.set_cons_zero, List.set_cons_succ]
    refine mix_off (by rfl) ?_
    simp only [Act.put, List.setIfInBounds_toArray, List.set_cons_zero, List.set_cons_succ]
    refine mix_off (by rfl) ?_
    simp only [Act.put, List.setIfInBounds_toArray, List.set_cons_zero, List.set_cons_succ]
    refine mix_off (by rfl) ?_
    simp only [Act.put, List.setIfInBounds_toArray, List.set_cons_zero, List.set_cons_succ]
    refine mix_val (.bool false) (by rfl) (fun _ _ => by rfl) ?_
    simp only [Act.put, List.setIfInBounds_toArray, List.set_cons_zero, List.set_cons_succ]
    refine mix_val (.bool false) (by rfl) (fun _ _ => by rfl) ?_
    simp only [Act.put, List.setIfInBounds_toArray, List.set_cons_zero, List.set_cons_succ]
    refine mix_off (by rfl) ?_
    simp only [Act.put, List.setIfInBounds_toArray, List.set_cons_zero, List.set_cons_succ]
    refine mix_off (by rfl) ?_
    simp only [Act.put, List.setIfInBounds_toArray, List.set_cons_zero, List.set_cons_succ]
    refine mix_off (by rfl) ?_
    simp only [Act.put, List.setIfInBounds_toArray, List.set_cons_zero, List.set_cons_succ]
    refine mix_val (.bool false) (by rfl) (fun _ _ => by rfl) ?_
    simp only [Act.put, List.setIfInBounds_toArray, List.set_cons_zero, List.set_cons_succ]
    refine mix_val (.bool false) (by rfl) (fun _ _ => by rfl) ?_
    simp only [Act.put, List.setIfInBounds_toArray, List.set_cons_zero, List.set_cons_succ]
    refine mix_off (by rfl) ?_
    simp only [Act.put, List.setIfInBounds_toArray, List.set_cons_zero, List.set_cons_succ]
    refine mix_off (by rfl) ?_
    simp only [Act.put, List.setIfInBounds_toArray, List.set_cons_zero, List.set_cons_succ]
    refine mix_off (by rfl) ?_
    simp only [Act.put, List.setIfInBounds_toArray, List.set_cons_zero, List.set_cons_succ]
    refine mix_val (.bool false) (by rfl) (fun _ _ => by rfl) ?_
    simp only [Act.put, List.setIfInBounds_toArray, List.set_cons_zero, List.set_cons_succ]
    refine mix_val (.bool false) (by rfl) (fun _ _ => by rfl) ?_
    simp only [Act.put, List.setIfInBounds_toArray, List.set_cons_zero, List.set_cons_succ]
    refine mix_off (by rfl) ?_
    simp only [Act.put, List.setIfInBounds_toArray, List.set_cons_zero, List.set_cons_succ]
    refine mix_off (by rfl) ?_
    simp only [Act.put, List.setIfInBounds_toArray, List.set_cons_zero, List.set_cons_succ]
    refine mix_off (by rfl) ?_
    simp only [Act.put, List.setIfInBounds_toArray, List.set_cons_zero, List.set_cons_succ]
    refine mix_val (.bool false) (by rfl) (fun _ _ => by rfl) ?_
    simp only [Act.put, List.setIfInBounds_toArray, List.set_cons_zero, List.set_cons_succ]
    refine mix_store_fact (by rfl) _ _ rfl (w.heap.size + 1) (keepV v) (keepT v t) rfl rfl _ R3.out rfl hone ⟨(setRow_other _ _ _ _ (by omega)).trans F3.out, (setRow_other _ _ _ _ (by omega)).trans G3.out⟩ ?_
    simp only [Act.put]
    refine mix_val (.bool false) (by rfl) (fun _ _ => by rfl) ?_
    simp only [Act.put, List.setIfInBounds_toArray, List.set_cons_zero, List.set_cons_succ]
    refine mix_done ?_
    go_wp2_with fail
    refine bodyPost_ret (results_fact_tmp rfl _ _ (w.heap.size + 1) (keepV v) (keepT v t) _ rfl (setRow_heap _ _ _ _ _ _ R3.out) rfl) rfl ?_
    exact ⟨rfl, below_setRow' (Below.drew (Below.drew (Below.drew (B3.out)))) _ _ (by omega)⟩
  rcases e1 with _ | _
  · refine wp_region_mix (fun w' => w'.heap[w.heap.size]? = some (.cells (factC v t) 40 (0, 0)) ∧ w'.heap[AG]? = some (.cells (factC (keepV v) (keepT v t)) 40 (0, 0))) [true, true, true, true, true, true, true, true, true, true, true, true, true, true, true, true, true, true, true, true, true, true, true, true, true, true, true, true, true, true, true, true, true, true, true, true, true, true, true, false, true] (by kernel_rfl) (by kernel_rfl) ⟨F3.out, G3.out⟩ ?_
    refine mix_load_fact (by rfl) _ rfl AG rfl (keepV v) (keepT v t) (fun _ hc => hc.2) ?_
    simp only [Act.put, List.setIfInBounds_toArray, List.set_cons_zero, List.set_cons_succ]
    refine mix_val (.pointer (some ⟨w.heap.size, 1, none⟩)) (by rfl) (fun _ _ => by go_simp) ?_
    simp only [Act.put, List.setIfInBounds_toArray, List.set_cons_zero, List.set_cons_succ]
    refine mix_load_int (by rfl) _ rfl ⟨w.heap.size, 1, none⟩ rfl (.int .i64 (v 1)) (fun _ hc => fact_cell 1 (by decide) hc.1) ?_
    simp only [Act.put, List.setIfInBounds_toArray, List.set_cons_zero, List.set_cons_succ]
    refine mix_call 64 #[.int .i64 (v 1)] (.bool true) (by rfl) (fun _ => by go_simp) H0.out ?_
    simp only [Act.put, List.setIfInBounds_toArray, List.set_cons_zero, List.set_cons_succ]
    refine mix_val (.bool true) (by rfl) (fun _ _ => by rfl) ?_
    simp only [Act.put, List.setIfInBounds_toArray, List.set_cons_zero, List.set_cons_succ]
    refine mix_val (.pointer (some ⟨w.heap.size, 5, none⟩)) (by rfl) (fun _ _ => by go_simp) ?_
    simp only [Act.put, List.setIfInBounds_toArray, List.set_cons_zero, List.set_cons_succ]
    refine mix_load_int (by rfl) _ rfl ⟨w.heap.size, 5, none⟩ rfl (.int .i64 (v 5)) (fun _ hc => fact_cell 5 (by decide) hc.1) ?_
    simp only [Act.put, List.setIfInBounds_toArray, List.set_cons_zero, List.set_cons_succ]
    refine mix_call 64 #[.int .i64 (v 5)] (.bool false) (by rfl) (fun _ => by go_simp) H1.out ?_
    simp only [Act.put, List.setIfInBounds_toArray, List.set_cons_zero, List.set_cons_succ]
    refine mix_val (.bool false) (by rfl) (fun _ _ => by rfl) ?_
    simp only [Act.put, List.setIfInBounds_toArray, List.set_cons_zero, List.set_cons_succ]
    refine mix_val (.bool false) (by rfl) (fun _ _ => by rfl) ?_
    simp only [Act.put, List.setIfInBounds_toArray, List.set_cons_zero, List.set_cons_succ]
    refine mix_off (by rfl) ?_
    simp only [Act.put, List.setIfInBounds_toArray, List.set_cons_zero, List.set_cons_succ]
    refine mix_off (by rfl) ?_
    simp only [Act.put, List.setIfInBounds_toArray, List.set_cons_zero, List.set_cons_succ]
    refine mix_off (by rfl) ?_
    simp only [Act.put, List.setIfInBounds_toArray, List.set_cons_zero, List.set_cons_succ]
    refine mix_val (.bool false) (by rfl) (fun _ _ => by rfl) ?_
    simp only [Act.put, List.setIfInBounds_toArray, List.set_cons_zero, List.set_cons_succ]
    refine mix_val (.bool false) (by rfl) (fun _ _ => by rfl) ?_
    simp only [Act.put, List.setIfInBounds_toArray, List.set_cons_zero, List.set_cons_succ]
    refine mix_off (by rfl) ?_
    simp only [Act.put, List.setIfInBounds_toArray, List.set_cons_zero, List.set_cons_succ]
    refine mix_off (by rfl) ?_
    simp only [Act.put, List.setIfInBounds_toArray, List.set_cons_zero, List.set_cons_succ]
    refine mix_off (by rfl) ?_
    simp only [Act.put, List.setIfInBounds_toArray, List.set_cons_zero, List.set_cons_succ]
    refine mix_val (.bool false) (by rfl) (fun _ _ => by rfl) ?_
    simp only [Act.put, List.setIfInBounds_toArray, List.set_cons_zero, List.set_cons_succ]
    refine mix_val (.bool false) (by rfl) (fun _ _ => by rfl) ?_
    simp only [Act.put, List.setIfInBounds_toArray, List.set_cons_zero, List.set_cons_succ]
    refine mix_off (by rfl) ?_
    simp only [Act.put, List.setIfInBounds_toArray, List.set_cons_zero, List.set_cons_succ]
    refine mix_off (by rfl) ?_
    simp only [Act.put, List.setIfInBounds_toArray, List.set_cons_zero, List.set_cons_succ]
    refine mix_off (by rfl) ?_
    simp only [Act.put, List.setIfInBounds_toArray, List.set_cons_zero, List.set_cons_succ]
    refine mix_val (.bool false) (by rfl) (fun _ _ => by rfl) ?_
    simp only [Act.put, List.setIfInBounds_toArray, List.set_cons_zero, List.set_cons_succ]
    refine mix_val (.bool false) (by rfl) (fun _ _ => by rfl) ?_
    simp only [Act.put, List.setIfInBounds_toArray, List.set_cons_zero, List.set_cons_succ]
    refine mix_off (by rfl) ?_
    simp only [Act.put, List.setIfInBounds_toArray, List.set_cons_zero, List.set_cons_succ]
    refine mix_off (by rfl) ?_
    simp only [Act.put, List.setIfInBounds_toArray, List.set_cons_zero, List.set_cons_succ]
    refine mix_off (by rfl) ?_
    simp only [Act.put, List.setIfInBounds_toArray, List.set_cons_zero, List.set_cons_succ]
    refine mix_val (.bool false) (by rfl) (fun _ _ => by rfl) ?_
    simp only [Act.put, List.setIfInBounds_toArray, List.set_cons_zero, List.set_cons_succ]
    refine mix_val (.bool false) (by rfl) (fun _ _ => by rfl) ?_
    simp only [Act.put, List.setIfInBounds_toArray, List.set_cons_zero, List.set_cons_succ]
    refine mix_off (by rfl) ?_
    simp only [Act.put, List.setIfInBounds_toArray, List.set_cons_zero, List.set_cons_succ]
    refine mix_off (by rfl) ?_
    simp only [Act.put, List.setIfInBounds_toArray, List.set_cons_zero, List.set_cons_succ]
    refine mix_off (by rfl) ?_
    simp only [Act.put, List.setIfInBounds_toArray, List.set_cons_zero, List.set_cons_succ]
    refine mix_val (.bool false) (by rfl) (fun _ _ => by rfl) ?_
    simp only [Act.put, List.setIfInBounds_toArray, List.set_cons_zero, List.set_cons_succ]
    refine mix_val (.bool false) (by rfl) (fun _ _ => by rfl) ?_
    simp only [Act.put, List.setIfInBounds_toArray, List.set_cons_zero, List.set_cons_succ]
    refine mix_off (by rfl) ?_
    simp only [Act.put, List.setIfInBounds_toArray, List.set_cons_zero, List.set_cons_succ]
    refine mix_off (by rfl) ?_
    simp only [Act.put, List.setIfInBounds_toArray, List.set_cons_zero, List.set_cons_succ]
    refine mix_off (by rfl) ?_
    simp only [Act.put, List.setIfInBounds_toArray, List.set_cons_zero, List.set_cons_succ]
    refine mix_val (.bool false) (by rfl) (fun _ _ => by rfl) ?_
    simp only [Act.put, List.setIfInBounds_toArray, List.set_cons_zero, List.set_cons_succ]
    refine mix_store_fact (by rfl) _ _ rfl (w.heap.size + 1) (keepV v) (keepT v t) rfl rfl _ R3.out rfl hone ⟨(setRow_other _ _ _ _ (by omega)).trans F3.out, (setRow_other _ _ _ _ (by omega)).trans G3.out⟩ ?_
    simp only [Act.put]
    refine mix_val (.bool false) (by rfl) (fun _ _ => by rfl) ?_
    simp only [Act.put, List.setIfInBounds_toArray, List.set_cons_zero, List.set_cons_succ]
    refine mix_done ?_
    go_wp2_with fail
    refine bodyPost_ret (results_fact_tmp rfl _ _ (w.heap.size + 1) (keepV v) (keepT v t) _ rfl (setRow_heap _ _ _ _ _ _ R3.out) rfl) rfl ?_
    exact ⟨rfl, below_setRow' (Below.drew (Below.drew (Below.drew (B3.out)))) _ _ (by omega)⟩
  rcases e2 with _ | _
  · refine wp_region_mix (fun w' => w'.heap[w.heap.size]? = some (.cells (factC v t) 40 (0, 0)) ∧ w'.heap[AG]? = some (.cells (factC (keepV v) (keepT v t)) 40 (0, 0))) [true, true, true, true, true, true, true, true, true, true, true, true, true, true, true, true, true, true, true, true, true, true, true, true, true, true, true, true, true, true, true, true, true, true, true, true, true, true, true, false, true] (by kernel_rfl) (by kernel_rfl) ⟨F3.out, G3.out⟩ ?_
    refine mix_load_fact (by rfl) _ rfl AG rfl (keepV v) (keepT v t) (fun _ hc => hc.2) ?_
    simp only [Act.put, List.setIfInBounds_toArray, List.set_cons_zero, List.set_cons_succ]
    refine mix_val (.pointer (some ⟨w.heap.size, 1, none⟩)) (by rfl) (fun _ _ => by go_simp) ?_
    simp only [Act.put, List.setIfInBounds_toArray, List.set_cons_zero, List.set_cons_succ]
    refine mix_load_int (by rfl) _ rfl ⟨w.heap.size, 1, none⟩ rfl (.int .i64 (v 1)) (fun _ hc => fact_cell 1 (by decide) hc.1) ?_
    simp only [Act.put, List.setIfInBounds_toArray, List.set_cons_zero, List.set_cons_succ]
    refine mix_call 64 #[.int .i64 (v 1)] (.bool true) (by rfl) (fun _ => by go_simp) H0.out ?_
    simp only [Act.put, List.setIfInBounds_toArray, List.set_cons_zero, List.set_cons_succ]
    refine mix_val (.bool true) (by rfl) (fun _ _ => by rfl) ?_
    simp only [Act.put, List.setIfInBounds_toArray, List.set_cons_zero, List.set_cons_succ]
    refine mix_val (.pointer (some ⟨w.heap.size, 5, none⟩)) (by rfl) (fun _ _ => by go_simp) ?_
    simp only [Act.put, List.setIfInBounds_toArray, List.set_cons_zero, List.set_cons_succ]
    refine mix_load_int (by rfl) _ rfl ⟨w.heap.size, 5, none⟩ rfl (.int .i64 (v 5)) (fun _ hc => fact_cell 5 (by decide) hc.1) ?_
    simp only [Act.put, List.setIfInBounds_toArray, List.set_cons_zero, List.set_cons_succ]
    refine mix_call 64 #[.int .i64 (v 5)] (.bool true) (by rfl) (fun _ => by go_simp) H1.out ?_
    simp only [Act.put, List.setIfInBounds_toArray, List.set_cons_zero, List.set_cons_succ]
    refine mix_val (.bool true) (by rfl) (fun _ _ => by rfl) ?_
    simp only [Act.put, List.setIfInBounds_toArray, List.set_cons_zero, List.set_cons_succ]
    refine mix_val (.bool true) (by rfl) (fun _ _ => by rfl) ?_
    simp only [Act.put, List.setIfInBounds_toArray, List.set_cons_zero, List.set_cons_succ]
    refine mix_val (.pointer (some ⟨w.heap.size, 6, none⟩)) (by rfl) (fun _ _ => by go_simp) ?_
    simp only [Act.put, List.setIfInBounds_toArray, List.set_cons_zero, List.set_cons_succ]
    refine mix_load_int (by rfl) _ rfl ⟨w.heap.size, 6, none⟩ rfl (.int .i64 (v 6)) (fun _ hc => fact_cell 6 (by decide) hc.1) ?_
    simp only [Act.put, List.setIfInBounds_toArray, List.set_cons_zero, List.set_cons_succ]
    refine mix_call 64 #[.int .i64 (v 6)] (.bool false) (by rfl) (fun _ => by go_simp) H2.out ?_
    simp only [Act.put, List.setIfInBounds_toArray, List.set_cons_zero, List.set_cons_succ]
    refine mix_val (.bool false) (by rfl) (fun _ _ => by rfl) ?_
    simp only [Act.put, List.setIfInBounds_toArray, List.set_cons_zero, List.set_cons_succ]
    refine mix_val (.bool false) (by rfl) (fun _ _ => by rfl) ?_
    simp only [Act.put, List.setIfInBounds_toArray, List.set_cons_zero, List.set_cons_succ]
    refine mix_off (by rfl) ?_
    simp only [Act.put, List.setIfInBounds_toArray, List.set_cons_zero, List.set_cons_succ]
    refine mix_off (by rfl) ?_
    simp only [Act.put, List.setIfInBounds_toArray, List.set_cons_zero, List.set_cons_succ]
    refine mix_off (by rfl) ?_
    simp only [Act.put, List.setIfInBounds_toArray, List.set_cons_zero, List.set_cons_succ]
    refine mix_val (.bool false) (by rfl) (fun _ _ => by rfl) ?_
    simp only [Act.put, List.setIfInBounds_toArray, List.set_cons_zero, List.set_cons_succ]
    refine mix_val (.bool false) (by rfl) (fun _ _ => by rfl) ?_
    simp only [Act.put, List.setIfInBounds_toArray, List.set_cons_zero, List.set_cons_succ]
    refine mix_off (by rfl) ?_
    simp only [Act.put, List.setIfInBounds_toArray, List.set_cons_zero, List.set_cons_succ]
    refine mix_off (by rfl) ?_
    simp only [Act.put, List.setIfInBounds_toArray, List.set_cons_zero, List.set_cons_succ]
    refine mix_off (by rfl) ?_
    simp only [Act.put, List.setIfInBounds_toArray, List.set_cons_zero, List.set_cons_succ]
    refine mix_val (.bool false) (by rfl) (fun _ _ => by rfl) ?_
    simp only [Act.put, List.setIfInBounds_toArray, List.set_cons_zero, List.set_cons_succ]
    refine mix_val (.bool false) (by rfl) (fun _ _ => by rfl) ?_
    simp only [Act.put, List.setIfInBounds_toArray, List.set_cons_zero, List.set_cons_succ]
    refine mix_off (by rfl) ?_
    simp only [Act.put, List.setIfInBounds_toArray, List.set_cons_zero, List.set_cons_succ]
    refine mix_off (by rfl) ?_
    simp only [Act.put, List.setIfInBounds_toArray, List.set_cons_zero, List.set_cons_succ]
    refine mix_off (by rfl) ?_
    simp only [Act.put, List.setIfInBounds_toArray, List.set_cons_zero, List.set_cons_succ]
    refine mix_val (.bool false) (by rfl) (fun _ _ => by rfl) ?_
    simp only [Act.put, List.setIfInBounds_toArray, List.set_cons_zero, List.set_cons_succ]
    refine mix_val (.bool false) (by rfl) (fun _ _ => by rfl) ?_
    simp only [Act.put, List.setIfInBounds_toArray, List.set_cons_zero, List.set_cons_succ]
    refine mix_off (by rfl) ?_
    simp only [Act.put, List.setIfInBounds_toArray, List.set_cons_zero, List.set_cons_succ]
    refine mix_off (by rfl) ?_
    simp only [Act.put, List.setIfInBounds_toArray, List.set_cons_zero, List.set_cons_succ]
    refine mix_off (by rfl) ?_
    simp only [Act.put, List.setIfInBounds_toArray, List.set_cons_zero, List.set_cons_succ]
    refine mix_val (.bool false) (by rfl) (fun _ _ => by rfl) ?_
    simp only [Act.put, List.setIfInBounds_toArray, List.set_cons_zero, List.set_cons_succ]
    refine mix_val (.bool false) (by rfl) (fun _ _ => by rfl) ?_
    simp only [Act.put, List.setIfInBounds_toArray, List.set_cons_zero, List.set_cons_succ]
    refine mix_off (by rfl) ?_
    simp only [Act.put, List.setIfInBounds_toArray, List.set_cons_zero, List.set_cons_succ]
    refine mix_off (by rfl) ?_
    simp only [Act.put, List.setIfInBounds_toArray, List.set_cons_zero, List.set_cons_succ]
    refine mix_off (by rfl) ?_
    simp only [Act.put, List.setIfInBounds_toArray, List.set_cons_zero, List.set_cons_succ]
    refine mix_val (.bool false) (by rfl) (fun _ _ => by rfl) ?_
    simp only [Act.put, List.setIfInBounds_toArray, List.set_cons_zero, List.set_cons_succ]
    refine mix_store_fact (by rfl) _ _ rfl (w.heap.size + 1) (keepV v) (keepT v t) rfl rfl _ R3.out rfl hone ⟨(setRow_other _ _ _ _ (by omega)).trans F3.out, (setRow_other _ _ _ _ (by omega)).trans G3.out⟩ ?_
    simp only [Act.put]
    refine mix_val (.bool false) (by rfl) (fun _ _ => by rfl) ?_
    simp only [Act.put, List.setIfInBounds_toArray, List.set_cons_zero, List.set_cons_succ]
    refine mix_done ?_
    go_wp2_with fail
    refine bodyPost_ret (results_fact_tmp rfl _ _ (w.heap.size + 1) (keepV v) (keepT v t) _ rfl (setRow_heap _ _ _ _ _ _ R3.out) rfl) rfl ?_
    exact ⟨rfl, below_setRow' (Below.drew (Below.drew (Below.drew (B3.out)))) _ _ (by omega)⟩
  rcases e3 with _ | _
  · refine wp_region_mix (fun w' => w'.heap[w.heap.size]? = some (.cells (factC v t) 40 (0, 0)) ∧ w'.heap[AG]? = some (.cells (factC (keepV v) (keepT v t)) 40 (0, 0))) [true, true, true, true, true, true, true, true, true, true, true, true, true, true, true, true, true, true, true, true, true, true, true, true, true, true, true, true, true, true, true, true, true, true, true, true, true, true, true, false, true] (by kernel_rfl) (by kernel_rfl) ⟨F3.out, G3.out⟩ ?_
    refine mix_load_fact (by rfl) _ rfl AG rfl (keepV v) (keepT v t) (fun _ hc => hc.2) ?_
    simp only [Act.put, List.setIfInBounds_toArray, List.set_cons_zero, List.set_cons_succ]
    refine mix_val (.pointer (some ⟨w.heap.size, 1, none⟩)) (by rfl) (fun _ _ => by go_simp) ?_
    simp only [Act.put, List.setIfInBounds_toArray, List.set_cons_zero, List.set_cons_succ]
    refine mix_load_int (by rfl) _ rfl ⟨w.heap.size, 1, none⟩ rfl (.int .i64 (v 1)) (fun _ hc => fact_cell 1 (by decide) hc.1) ?_
    simp only [Act.put, List.setIfInBounds_toArray, List.set_cons_zero, List.set_cons_succ]
    refine mix_call 64 #[.int .i64 (v 1)] (.bool true) (by rfl) (fun _ => by go_simp) H0.out ?_
    simp only [Act.put, List.setIfInBounds_toArray, List.set_cons_zero, List.set_cons_succ]
    refine mix_val (.bool true) (by rfl) (fun _ _ => by rfl) ?_
    simp only [Act.put, List.setIfInBounds_toArray, List.set_cons_zero, List.set_cons_succ]
    refine mix_val (.pointer (some ⟨w.heap.size, 5, none⟩)) (by rfl) (fun _ _ => by go_simp) ?_
    simp only [Act.put, List.setIfInBounds_toArray, List.set_cons_zero, List.set_cons_succ]
    refine mix_load_int (by rfl) _ rfl ⟨w.heap.size, 5, none⟩ rfl (.int .i64 (v 5)) (fun _ hc => fact_cell 5 (by decide) hc.1) ?_
    simp only [Act.put, List.setIfInBounds_toArray, List.set_cons_zero, List.set_cons_succ]
    refine mix_call 64 #[.int .i64 (v 5)] (.bool true) (by rfl) (fun _ => by go_simp) H1.out ?_
    simp only [Act.put, List.setIfInBounds_toArray, List.set_cons_zero, List.set_cons_succ]
    refine mix_val (.bool true) (by rfl) (fun _ _ => by rfl) ?_
    simp only [Act.put, List.setIfInBounds_toArray, List.set_cons_zero, List.set_cons_succ]
    refine mix_val (.bool true) (by rfl) (fun _ _ => by rfl) ?_
    simp only [Act.put, List.setIfInBounds_toArray, List.set_cons_zero, List.set_cons_succ]
    refine mix_val (.pointer (some ⟨w.heap.size, 6, none⟩)) (by rfl) (fun _ _ => by go_simp) ?_
    simp only [Act.put, List.setIfInBounds_toArray, List.set_cons_zero, List.set_cons_succ]
    refine mix_load_int (by rfl) _ rfl ⟨w.heap.size, 6, none⟩ rfl (.int .i64 (v 6)) (fun _ hc => fact_cell 6 (by decide) hc.1) ?_
    simp only [Act.put, List.setIfInBounds_toArray, List.set_cons_zero, List.set_cons_succ]
    refine mix_call 64 #[.int .i64 (v 6)] (.bool true) (by rfl) (fun _ => by go_simp) H2.out ?_
    simp only [Act.put, List.setIfInBounds_toArray, List.set_cons_zero, List.set_cons_succ]
    refine mix_val (.bool true) (by rfl) (fun _ _ => by rfl) ?_
    simp only [Act.put, List.setIfInBounds_toArray, List.set_cons_zero, List.set_cons_succ]
    refine mix_val (.bool true) (by rfl) (fun _ _ => by rfl) ?_
    simp only [Act.put, List.setIfInBounds_toArray, List.set_cons_zero, List.set_cons_succ]
    refine mix_val (.pointer (some ⟨w.heap.size, 7, none⟩)) (by rfl) (fun _ _ => by go_simp) ?_
    simp only [Act.put, List.setIfInBounds_toArray, List.set_cons_zero, List.set_cons_succ]
    refine mix_load_int (by rfl) _ rfl ⟨w.heap.size, 7, none⟩ rfl (.int .i64 (v 7)) (fun _ hc => fact_cell 7 (by decide) hc.1) ?_
    simp only [Act.put, List.setIfInBounds_toArray, List.set_cons_zero, List.set_cons_succ]
    refine mix_call 64 #[.int .i64 (v 7)] (.bool false) (by rfl) (fun _ => by go_simp) H3.out ?_
    simp only [Act.put, List.setIfInBounds_toArray, List.set_cons_zero, List.set_cons_succ]
    refine mix_val (.bool false) (by rfl) (fun _ _ => by rfl) ?_
    simp only [Act.put, List.setIfInBounds_toArray, List.set_cons_zero, List.set_cons_succ]
    refine mix_val (.bool false) (by rfl) (fun _ _ => by rfl) ?_
    simp only [Act.put, List.setIfInBounds_toArray, List.set_cons_zero, List.set_cons_succ]
    refine mix_off (by rfl) ?_
    simp only [Act.put, List.setIfInBounds_toArray, List.set_cons_zero, List.set_cons_succ]
    refine mix_off (by rfl) ?_
    simp only [Act.put, List.setIfInBounds_toArray, List.set_cons_zero, List.set_cons_succ]
    refine mix_off (by rfl) ?_
    simp only [Act.put, List.setIfInBounds_toArray, List.set_cons_zero, List.set_cons_succ]
    refine mix_val (.bool false) (by rfl) (fun _ _ => by rfl) ?_
    simp only [Act.put, List.setIfInBounds_toArray, List.set_cons_zero, List.set_cons_succ]
    refine mix_val (.bool false) (by rfl) (fun _ _ => by rfl) ?_
    simp only [Act.put, List.setIfInBounds_toArray, List.set_cons_zero, List.set_cons_succ]
    refine mix_off (by rfl) ?_
    simp only [Act.put, List.setIfInBounds_toArray, List.set_cons_zero, List.set_cons_succ]
    refine mix_off (by rfl) ?_
    simp only [Act.put, List.setIfInBounds_toArray, List.set_cons_zero, List.set_cons_succ]
    refine mix_off (by rfl) ?_
    simp only [Act.put, List.setIfInBounds_toArray, List.set_cons_zero, List.set_cons_succ]
    refine mix_val (.bool false) (by rfl) (fun _ _ => by rfl) ?_
    simp only [Act.put, List.setIfInBounds_toArray, List.set_cons_zero, List.set_cons_succ]
    refine mix_val (.bool false) (by rfl) (fun _ _ => by rfl) ?_
    simp only [Act.put, List.setIfInBounds_toArray, List.set_cons_zero, List.set_cons_succ]
    refine mix_off (by rfl) ?_
    simp only [Act.put, List.setIfInBounds_toArray, List.set_cons_zero, List.set_cons_succ]
    refine mix_off (by rfl) ?_
    simp only [Act.put, List.setIfInBounds_toArray, List.set_cons_zero, List.set_cons_succ]
    refine mix_off (by rfl) ?_
    simp only [Act.put, List.setIfInBounds_toArray, List.set_cons_zero, List.set_cons_succ]
    refine mix_val (.bool false) (by rfl) (fun _ _ => by rfl) ?_
    simp only [Act.put, List.setIfInBounds_toArray, List.set_cons_zero, List.set_cons_succ]
    refine mix_val (.bool false) (by rfl) (fun _ _ => by rfl) ?_
    simp only [Act.put, List.setIfInBounds_toArray, List.set_cons_zero, List.set_cons_succ]
    refine mix_off (by rfl) ?_
    simp only [Act.put, List.setIfInBounds_toArray, List.set_cons_zero, List.set_cons_succ]
    refine mix_off (by rfl) ?_
    simp only [Act.put, List.setIfInBounds_toArray, List.set_cons_zero, List.set_cons_succ]
    refine mix_off (by rfl) ?_
    simp only [Act.put, List.setIfInBounds_toArray, List.set_cons_zero, List.set_cons_succ]
    refine mix_val (.bool false) (by rfl) (fun _ _ => by rfl) ?_
    simp only [Act.put, List.setIfInBounds_toArray, List.set_cons_zero, List.set_cons_succ]
    refine mix_store_fact (by rfl) _ _ rfl (w.heap.size + 1) (keepV v) (keepT v t) rfl rfl _ R3.out rfl hone ⟨(setRow_other _ _ _ _ (by omega)).trans F3.out, (setRow_other _ _ _ _ (by omega)).trans G3.out⟩ ?_
    simp only [Act.put]
    refine mix_val (.bool false) (by rfl) (fun _ _ => by rfl) ?_
    simp only [Act.put, List.setIfInBounds_toArray, List.set_cons_zero, List.set_cons_succ]
    refine mix_done ?_
    go_wp2_with fail
    refine bodyPost_ret (results_fact_tmp rfl _ _ (w.heap.size + 1) (keepV v) (keepT v t) _ rfl (setRow_heap _ _ _ _ _ _ R3.out) rfl) rfl ?_
    exact ⟨rfl, below_setRow' (Below.drew (Below.drew (Below.drew (B3.out)))) _ _ (by omega)⟩
  rcases e4 with _ | _
  · refine wp_region_mix (fun w' => w'.heap[w.heap.size]? = some (.cells (factC v t) 40 (0, 0)) ∧ w'.heap[AG]? = some (.cells (factC (keepV v) (keepT v t)) 40 (0, 0))) [true, true, true, true, true, true, true, true, true, true, true, true, true, true, true, true, true, true, true, true, true, true, true, true, true, true, true, true, true, true, true, true, true, true, true, true, true, true, true, false, true] (by kernel_rfl) (by kernel_rfl) ⟨F3.out, G3.out⟩ ?_
    refine mix_load_fact (by rfl) _ rfl AG rfl (keepV v) (keepT v t) (fun _ hc => hc.2) ?_
    simp only [Act.put, List.setIfInBounds_toArray, List.set_cons_zero, List.set_cons_succ]
    refine mix_val (.pointer (some ⟨w.heap.size, 1, none⟩)) (by rfl) (fun _ _ => by go_simp) ?_
    simp only [Act.put, List.setIfInBounds_toArray, List.set_cons_zero, List.set_cons_succ]
    refine mix_load_int (by rfl) _ rfl ⟨w.heap.size, 1, none⟩ rfl (.int .i64 (v 1)) (fun _ hc => fact_cell 1 (by decide) hc.1) ?_
    simp only [Act.put, List.setIfInBounds_toArray, List.set_cons_zero, List.set_cons_succ]
    refine mix_call 64 #[.int .i64 (v 1)] (.bool true) (by rfl) (fun _ => by go_simp) H0.out ?_
    simp only [Act.put, List.setIfInBounds_toArray, List.set_cons_zero, List.set_cons_succ]
    refine mix_val (.bool true) (by rfl) (fun _ _ => by rfl) ?_
    simp only [Act.put, List.setIfInBounds_toArray, List.set_cons_zero, List.set_cons_succ]
    refine mix_val (.pointer (some ⟨w.heap.size, 5, none⟩)) (by rfl) (fun _ _ => by go_simp) ?_
    simp only [Act.put, List.setIfInBounds_toArray, List.set_cons_zero, List.set_cons_succ]
    refine mix_load_int (by rfl) _ rfl ⟨w.heap.size, 5, none⟩ rfl (.int .i64 (v 5)) (fun _ hc => fact_cell 5 (by decide) hc.1) ?_
    simp only [Act.put, List.setIfInBounds_toArray, List.set_cons_zero, List.set_cons_succ]
    refine mix_call 64 #[.int .i64 (v 5)] (.bool true) (by rfl) (fun _ => by go_simp) H1.out ?_
    simp only [Act.put, List.setIfInBounds_toArray, List.set_cons_zero, List.set_cons_succ]
    refine mix_val (.bool true) (by rfl) (fun _ _ => by rfl) ?_
    simp only [Act.put, List.setIfInBounds_toArray, List.set_cons_zero, List.set_cons_succ]
    refine mix_val (.bool true) (by rfl) (fun _ _ => by rfl) ?_
    simp only [Act.put, List.setIfInBounds_toArray, List.set_cons_zero, List.set_cons_succ]
    refine mix_val (.pointer (some ⟨w.heap.size, 6, none⟩)) (by rfl) (fun _ _ => by go_simp) ?_
    simp only [Act.put, List.setIfInBounds_toArray, List.set_cons_zero, List.set_cons_succ]
    refine mix_load_int (by rfl) _ rfl ⟨w.heap.size, 6, none⟩ rfl (.int .i64 (v 6)) (fun _ hc => fact_cell 6 (by decide) hc.1) ?_
    simp only [Act.put, List.setIfInBounds_toArray, List.set_cons_zero, List.set_cons_succ]
    refine mix_call 64 #[.int .i64 (v 6)] (.bool true) (by rfl) (fun _ => by go_simp) H2.out ?_
    simp only [Act.put, List.setIfInBounds_toArray, List.set_cons_zero, List.set_cons_succ]
    refine mix_val (.bool true) (by rfl) (fun _ _ => by rfl) ?_
    simp only [Act.put, List.setIfInBounds_toArray, List.set_cons_zero, List.set_cons_succ]
    refine mix_val (.bool true) (by rfl) (fun _ _ => by rfl) ?_
    simp only [Act.put, List.setIfInBounds_toArray, List.set_cons_zero, List.set_cons_succ]
    refine mix_val (.pointer (some ⟨w.heap.size, 7, none⟩)) (by rfl) (fun _ _ => by go_simp) ?_
    simp only [Act.put, List.setIfInBounds_toArray, List.set_cons_zero, List.set_cons_succ]
    refine mix_load_int (by rfl) _ rfl ⟨w.heap.size, 7, none⟩ rfl (.int .i64 (v 7)) (fun _ hc => fact_cell 7 (by decide) hc.1) ?_
    simp only [Act.put, List.setIfInBounds_toArray, List.set_cons_zero, List.set_cons_succ]
    refine mix_call 64 #[.int .i64 (v 7)] (.bool true) (by rfl) (fun _ => by go_simp) H3.out ?_
    simp only [Act.put, List.setIfInBounds_toArray, List.set_cons_zero, List.set_cons_succ]
    refine mix_val (.bool true) (by rfl) (fun _ _ => by rfl) ?_
    simp only [Act.put, List.setIfInBounds_toArray, List.set_cons_zero, List.set_cons_succ]
    refine mix_val (.bool true) (by rfl) (fun _ _ => by rfl) ?_
    simp only [Act.put, List.setIfInBounds_toArray, List.set_cons_zero, List.set_cons_succ]
    refine mix_val (.pointer (some ⟨w.heap.size, 8, none⟩)) (by rfl) (fun _ _ => by go_simp) ?_
    simp only [Act.put, List.setIfInBounds_toArray, List.set_cons_zero, List.set_cons_succ]
    refine mix_load_int (by rfl) _ rfl ⟨w.heap.size, 8, none⟩ rfl (.int .i64 (v 8)) (fun _ hc => fact_cell 8 (by decide) hc.1) ?_
    simp only [Act.put, List.setIfInBounds_toArray, List.set_cons_zero, List.set_cons_succ]
    refine mix_call 65 #[.int .i64 (v 8)] (.bool false) (by rfl) (fun _ => by go_simp) H4.out ?_
    simp only [Act.put, List.setIfInBounds_toArray, List.set_cons_zero, List.set_cons_succ]
    refine mix_val (.bool false) (by rfl) (fun _ _ => by rfl) ?_
    simp only [Act.put, List.setIfInBounds_toArray, List.set_cons_zero, List.set_cons_succ]
    refine mix_val (.bool false) (by rfl) (fun _ _ => by rfl) ?_
    simp only [Act.put, List.setIfInBounds_toArray, List.set_cons_zero, List.set_cons_succ]
    refine mix_off (by rfl) ?_
    simp only [Act.put, List.setIfInBounds_toArray, List.set_cons_zero, List.set_cons_succ]
    refine mix_off (by rfl) ?_
    simp only [Act.put, List.setIfInBounds_toArray, List.set_cons_zero, List.set_cons_succ]
    refine mix_off (by rfl) ?_
    simp only [Act.put, List.setIfInBounds_toArray, List.set_cons_zero, List.set_cons_succ]
    refine mix_val (.bool false) (by rfl) (fun _ _ => by rfl) ?_
    simp only [Act.put, List.setIfInBounds_toArray, List.set_cons_zero, List.set_cons_succ]
    refine mix_val (.bool false) (by rfl) (fun _ _ => by rfl) ?_
    simp only [Act.put, List.setIfInBounds_toArray, List.set_cons_zero, List.set_cons_succ]
    refine mix_off (by rfl) ?_
    simp only [Act.put, List.setIfInBounds_toArray, List.set_cons_zero, List.set_cons_succ]
    refine mix_off (by rfl) ?_
    simp only [Act.put, List.setIfInBounds_toArray, List.set_cons_zero, List.set_cons_succ]
    refine mix_off (by rfl) ?_
    simp only [Act.put, List.setIfInBounds_toArray, List.set_cons_zero, List.set_cons_succ]
    refine mix_val (.bool false) (by rfl) (fun _ _ => by rfl) ?_
    simp only [Act.put, List.setIfInBounds_toArray, List.set_cons_zero, List.set_cons_succ]
    refine mix_val (.bool false) (by rfl) (fun _ _ => by rfl) ?_
    simp only [Act.put, List.setIfInBounds_toArray, List.set_cons_zero, List.set_cons_succ]
    refine mix_off (by rfl) ?_
    simp only [Act.put, List.setIfInBounds_toArray, List.set_cons_zero, List.set_cons_succ]
    refine mix_off (by rfl) ?_
    simp only [Act.put, List.setIfInBounds_toArray, List.set_cons_zero, List.set_cons_succ]
    refine mix_off (by rfl) ?_
    simp only [Act.put, List.setIfInBounds_toArray, List.set_cons_zero, List.set_cons_succ]
    refine mix_val (.bool false) (by rfl) (fun _ _ => by rfl) ?_
    simp only [Act.put, List.setIfInBounds_toArray, List.set_cons_zero, List.set_cons_succ]
    refine mix_store_fact (by rfl) _ _ rfl (w.heap.size + 1) (keepV v) (keepT v t) rfl rfl _ R3.out rfl hone ⟨(setRow_other _ _ _ _ (by omega)).trans F3.out, (setRow_other _ _ _ _ (by omega)).trans G3.out⟩ ?_
    simp only [Act.put]
    refine mix_val (.bool false) (by rfl) (fun _ _ => by rfl) ?_
    simp only [Act.put, List.setIfInBounds_toArray, List.set_cons_zero, List.set_cons_succ]
    refine mix_done ?_
    go_wp2_with fail
    refine bodyPost_ret (results_fact_tmp rfl _ _ (w.heap.size + 1) (keepV v) (keepT v t) _ rfl (setRow_heap _ _ _ _ _ _ R3.out) rfl) rfl ?_
    exact ⟨rfl, below_setRow' (Below.drew (Below.drew (Below.drew (B3.out)))) _ _ (by omega)⟩
  rcases e5 with _ | _
  · refine wp_region_mix (fun w' => w'.heap[w.heap.size]? = some (.cells (factC v t) 40 (0, 0)) ∧ w'.heap[AG]? = some (.cells (factC (keepV v) (keepT v t)) 40 (0, 0))) [true, true, true, true, true, true, true, true, true, true, true, true, true, true, true, true, true, true, true, true, true, true, true, true, true, true, true, true, true, true, true, true, true, true, true, true, true, true, true, false, true] (by kernel_rfl) (by kernel_rfl) ⟨F3.out, G3.out⟩ ?_
    refine mix_load_fact (by rfl) _ rfl AG rfl (keepV v) (keepT v t) (fun _ hc => hc.2) ?_
    simp only [Act.put, List.setIfInBounds_toArray, List.set_cons_zero, List.set_cons_succ]
    refine mix_val (.pointer (some ⟨w.heap.size, 1, none⟩)) (by rfl) (fun _ _ => by go_simp) ?_
    simp only [Act.put, List.setIfInBounds_toArray, List.set_cons_zero, List.set_cons_succ]
    refine mix_load_int (by rfl) _ rfl ⟨w.heap.size, 1, none⟩ rfl (.int .i64 (v 1)) (fun _ hc => fact_cell 1 (by decide) hc.1) ?_
    simp only [Act.put, List.setIfInBounds_toArray, List.set_cons_zero, List.set_cons_succ]
    refine mix_call 64 #[.int .i64 (v 1)] (.bool true) (by rfl) (fun _ => by go_simp) H0.out ?_
    simp only [Act.put, List.setIfInBounds_toArray, List.set_cons_zero, List.set_cons_succ]
    refine mix_val (.bool true) (by rfl) (fun _ _ => by rfl) ?_
    simp only [Act.put, List.setIfInBounds_toArray, List.set_cons_zero, List.set_cons_succ]
    refine mix_val (.pointer (some ⟨w.heap.size, 5, none⟩)) (by rfl) (fun _ _ => by go_simp) ?_
    simp only [Act.put, List.setIfInBounds_toArray, List.set_cons_zero, List.set_cons_succ]
    refine mix_load_int (by rfl) _ rfl ⟨w.heap.size, 5, none⟩ rfl (.int .i64 (v 5)) (fun _ hc => fact_cell 5 (by decide) hc.1) ?_
    simp only [Act.put, List.setIfInBounds_toArray, List.set_cons_zero, List.set_cons_succ]
    refine mix_call 64 #[.int .i64 (v 5)] (.bool true) (by rfl) (fun _ => by go_simp) H1.out ?_
    simp only [Act.put, List.setIfInBounds_toArray, List.set_cons_zero, List.set_cons_succ]
    refine mix_val (.bool true) (by rfl) (fun _ _ => by rfl) ?_
    simp only [Act.put, List.setIfInBounds_toArray, List.set_cons_zero, List.set_cons_succ]
    refine mix_val (.bool true) (by rfl) (fun _ _ => by rfl) ?_
    simp only [Act.put, List.setIfInBounds_toArray, List.set_cons_zero, List.set_cons_succ]
    refine mix_val (.pointer (some ⟨w.heap.size, 6, none⟩)) (by rfl) (fun _ _ => by go_simp) ?_
    simp only [Act.put, List.setIfInBounds_toArray, List.set_cons_zero, List.set_cons_succ]
    refine mix_load_int (by rfl) _ rfl ⟨w.heap.size, 6, none⟩ rfl (.int .i64 (v 6)) (fun _ hc => fact_cell 6 (by decide) hc.1) ?_
    simp only [Act.put, List.setIfInBounds_toArray, List.set_cons_zero, List.set_cons_succ]
    refine mix_call 64 #[.int .i64 (v 6)] (.bool true) (by rfl) (fun _ => by go_simp) H2.out ?_
    simp only [Act.put, List.setIfInBounds_toArray, List.set_cons_zero, List.set_cons_succ]
    refine mix_val (.bool true) (by rfl) (fun _ _ => by rfl) ?_
    simp only [Act.put, List.setIfInBounds_toArray, List.set_cons_zero, List.set_cons_succ]
    refine mix_val (.bool true) (by rfl) (fun _ _ => by rfl) ?_
    simp only [Act.put, List.setIfInBounds_toArray, List.set_cons_zero, List.set_cons_succ]
    refine mix_val (.pointer (some ⟨w.heap.size, 7, none⟩)) (by rfl) (fun _ _ => by go_simp) ?_
    simp only [Act.put, List.setIfInBounds_toArray, List.set_cons_zero, List.set_cons_succ]
    refine mix_load_int (by rfl) _ rfl ⟨w.heap.size, 7, none⟩ rfl (.int .i64 (v 7)) (fun _ hc => fact_cell 7 (by decide) hc.1) ?_
    simp only [Act.put, List.setIfInBounds_toArray, List.set_cons_zero, List.set_cons_succ]
    refine mix_call 64 #[.int .i64 (v 7)] (.bool true) (by rfl) (fun _ => by go_simp) H3.out ?_
    simp only [Act.put, List.setIfInBounds_toArray, List.set_cons_zero, List.set_cons_succ]
    refine mix_val (.bool true) (by rfl) (fun _ _ => by rfl) ?_
    simp only [Act.put, List.setIfInBounds_toArray, List.set_cons_zero, List.set_cons_succ]
    refine mix_val (.bool true) (by rfl) (fun _ _ => by rfl) ?_
    simp only [Act.put, List.setIfInBounds_toArray, List.set_cons_zero, List.set_cons_succ]
    refine mix_val (.pointer (some ⟨w.heap.size, 8, none⟩)) (by rfl) (fun _ _ => by go_simp) ?_
    simp only [Act.put, List.setIfInBounds_toArray, List.set_cons_zero, List.set_cons_succ]
    refine mix_load_int (by rfl) _ rfl ⟨w.heap.size, 8, none⟩ rfl (.int .i64 (v 8)) (fun _ hc => fact_cell 8 (by decide) hc.1) ?_
    simp only [Act.put, List.setIfInBounds_toArray, List.set_cons_zero, List.set_cons_succ]
    refine mix_call 65 #[.int .i64 (v 8)] (.bool true) (by rfl) (fun _ => by go_simp) H4.out ?_
    simp only [Act.put, List.setIfInBounds_toArray, List.set_cons_zero, List.set_cons_succ]
    refine mix_val (.bool true) (by rfl) (fun _ _ => by rfl) ?_
    simp only [Act.put, List.setIfInBounds_toArray, List.set_cons_zero, List.set_cons_succ]
    refine mix_val (.bool true) (by rfl) (fun _ _ => by rfl) ?_
    simp only [Act.put, List.setIfInBounds_toArray, List.set_cons_zero, List.set_cons_succ]
    refine mix_val (.pointer (some ⟨w.heap.size, 4, none⟩)) (by rfl) (fun _ _ => by go_simp) ?_
    simp only [Act.put, List.setIfInBounds_toArray, List.set_cons_zero, List.set_cons_succ]
    refine mix_load_int (by rfl) _ rfl ⟨w.heap.size, 4, none⟩ rfl (.int .i64 (v 4)) (fun _ hc => fact_cell 4 (by decide) hc.1) ?_
    simp only [Act.put, List.setIfInBounds_toArray, List.set_cons_zero, List.set_cons_succ]
    refine mix_call 49 #[.int .i64 (v 4), .int .i64 0, .int .i64 3155759999] (.bool false) (by rfl) (fun _ => by go_simp) H5.out ?_
    simp only [Act.put, List.setIfInBounds_toArray, List.set_cons_zero, List.set_cons_succ]
    refine mix_val (.bool false) (by rfl) (fun _ _ => by rfl) ?_
    simp only [Act.put, List.setIfInBounds_toArray, List.set_cons_zero, List.set_cons_succ]
    refine mix_val (.bool false) (by rfl) (fun _ _ => by rfl) ?_
    simp only [Act.put, List.setIfInBounds_toArray, List.set_cons_zero, List.set_cons_succ]
    refine mix_off (by rfl) ?_
    simp only [Act.put, List.setIfInBounds_toArray, List.set_cons_zero, List.set_cons_succ]
    refine mix_off (by rfl) ?_
    simp only [Act.put, List.setIfInBounds_toArray, List.set_cons_zero, List.set_cons_succ]
    refine mix_off (by rfl) ?_
    simp only [Act.put, List.setIfInBounds_toArray, List.set_cons_zero, List.set_cons_succ]
    refine mix_val (.bool false) (by rfl) (fun _ _ => by rfl) ?_
    simp only [Act.put, List.setIfInBounds_toArray, List.set_cons_zero, List.set_cons_succ]
    refine mix_val (.bool false) (by rfl) (fun _ _ => by rfl) ?_
    simp only [Act.put, List.setIfInBounds_toArray, List.set_cons_zero, List.set_cons_succ]
    refine mix_off (by rfl) ?_
    simp only [Act.put, List.setIfInBounds_toArray, List.set_cons_zero, List.set_cons_succ]
    refine mix_off (by rfl) ?_
    simp only [Act.put, List.setIfInBounds_toArray, List.set_cons_zero, List.set_cons_succ]
    refine mix_off (by rfl) ?_
    simp only [Act.put, List.setIfInBounds_toArray, List.set_cons_zero, List.set_cons_succ]
    refine mix_val (.bool false) (by rfl) (fun _ _ => by rfl) ?_
    simp only [Act.put, List.setIfInBounds_toArray, List.set_cons_zero, List.set_cons_succ]
    refine mix_store_fact (by rfl) _ _ rfl (w.heap.size + 1) (keepV v) (keepT v t) rfl rfl _ R3.out rfl hone ⟨(setRow_other _ _ _ _ (by omega)).trans F3.out, (setRow_other _ _ _ _ (by omega)).trans G3.out⟩ ?_
    simp only [Act.put]
    refine mix_val (.bool false) (by rfl) (fun _ _ => by rfl) ?_
    simp only [Act.put, List.setIfInBounds_toArray, List.set_cons_zero, List.set_cons_succ]
    refine mix_done ?_
    go_wp2_with fail
    refine bodyPost_ret (results_fact_tmp rfl _ _ (w.heap.size + 1) (keepV v) (keepT v t) _ rfl (setRow_heap _ _ _ _ _ _ R3.out) rfl) rfl ?_
    exact ⟨rfl, below_setRow' (Below.drew (Below.drew (Below.drew (B3.out)))) _ _ (by omega)⟩
  rcases e6 with _ | _
  · refine wp_region_mix (fun w' => w'.heap[w.heap.size]? = some (.cells (factC v t) 40 (0, 0)) ∧ w'.heap[AG]? = some (.cells (factC (keepV v) (keepT v t)) 40 (0, 0))) [true, true, true, true, true, true, true, true, true, true, true, true, true, true, true, true, true, true, true, true, true, true, true, true, true, true, true, true, true, true, true, true, true, true, true, true, true, true, true, false, true] (by kernel_rfl) (by kernel_rfl) ⟨F3.out, G3.out⟩ ?_
    refine mix_load_fact (by rfl) _ rfl AG rfl (keepV v) (keepT v t) (fun _ hc => hc.2) ?_
    simp only [Act.put, List.setIfInBounds_toArray, List.set_cons_zero, List.set_cons_succ]
    refine mix_val (.pointer (some ⟨w.heap.size, 1, none⟩)) (by rfl) (fun _ _ => by go_simp) ?_
    simp only [Act.put, List.setIfInBounds_toArray, List.set_cons_zero, List.set_cons_succ]
    refine mix_load_int (by rfl) _ rfl ⟨w.heap.size, 1, none⟩ rfl (.int .i64 (v 1)) (fun _ hc => fact_cell 1 (by decide) hc.1) ?_
    simp only [Act.put, List.setIfInBounds_toArray, List.set_cons_zero, List.set_cons_succ]
    refine mix_call 64 #[.int .i64 (v 1)] (.bool true) (by rfl) (fun _ => by go_simp) H0.out ?_
    simp only [Act.put, List.setIfInBounds_toArray, List.set_cons_zero, List.set_cons_succ]
    refine mix_val (.bool true) (by rfl) (fun _ _ => by rfl) ?_
    simp only [Act.put, List.setIfInBounds_toArray, List.set_cons_zero, List.set_cons_succ]
    refine mix_val (.pointer (some ⟨w.heap.size, 5, none⟩)) (by rfl) (fun _ _ => by go_simp) ?_
    simp only [Act.put, List.setIfInBounds_toArray, List.set_cons_zero, List.set_cons_succ]
    refine mix_load_int (by rfl) _ rfl ⟨w.heap.size, 5, none⟩ rfl (.int .i64 (v 5)) (fun _ hc => fact_cell 5 (by decide) hc.1) ?_
    simp only [Act.put, List.setIfInBounds_toArray, List.set_cons_zero, List.set_cons_succ]
    refine mix_call 64 #[.int .i64 (v 5)] (.bool true) (by rfl) (fun _ => by go_simp) H1.out ?_
    simp only [Act.put, List.setIfInBounds_toArray, List.set_cons_zero, List.set_cons_succ]
    refine mix_val (.bool true) (by rfl) (fun _ _ => by rfl) ?_
    simp only [Act.put, List.setIfInBounds_toArray, List.set_cons_zero, List.set_cons_succ]
    refine mix_val (.bool true) (by rfl) (fun _ _ => by rfl) ?_
    simp only [Act.put, List.setIfInBounds_toArray, List.set_cons_zero, List.set_cons_succ]
    refine mix_val (.pointer (some ⟨w.heap.size, 6, none⟩)) (by rfl) (fun _ _ => by go_simp) ?_
    simp only [Act.put, List.setIfInBounds_toArray, List.set_cons_zero, List.set_cons_succ]
    refine mix_load_int (by rfl) _ rfl ⟨w.heap.size, 6, none⟩ rfl (.int .i64 (v 6)) (fun _ hc => fact_cell 6 (by decide) hc.1) ?_
    simp only [Act.put, List.setIfInBounds_toArray, List.set_cons_zero, List.set_cons_succ]
    refine mix_call 64 #[.int .i64 (v 6)] (.bool true) (by rfl) (fun _ => by go_simp) H2.out ?_
    simp only [Act.put, List.setIfInBounds_toArray, List.set_cons_zero, List.set_cons_succ]
    refine mix_val (.bool true) (by rfl) (fun _ _ => by rfl) ?_
    simp only [Act.put, List.setIfInBounds_toArray, List.set_cons_zero, List.set_cons_succ]
    refine mix_val (.bool true) (by rfl) (fun _ _ => by rfl) ?_
    simp only [Act.put, List.setIfInBounds_toArray, List.set_cons_zero, List.set_cons_succ]
    refine mix_val (.pointer (some ⟨w.heap.size, 7, none⟩)) (by rfl) (fun _ _ => by go_simp) ?_
    simp only [Act.put, List.setIfInBounds_toArray, List.set_cons_zero, List.set_cons_succ]
    refine mix_load_int (by rfl) _ rfl ⟨w.heap.size, 7, none⟩ rfl (.int .i64 (v 7)) (fun _ hc => fact_cell 7 (by decide) hc.1) ?_
    simp only [Act.put, List.setIfInBounds_toArray, List.set_cons_zero, List.set_cons_succ]
    refine mix_call 64 #[.int .i64 (v 7)] (.bool true) (by rfl) (fun _ => by go_simp) H3.out ?_
    simp only [Act.put, List.setIfInBounds_toArray, List.set_cons_zero, List.set_cons_succ]
    refine mix_val (.bool true) (by rfl) (fun _ _ => by rfl) ?_
    simp only [Act.put, List.setIfInBounds_toArray, List.set_cons_zero, List.set_cons_succ]
    refine mix_val (.bool true) (by rfl) (fun _ _ => by rfl) ?_
    simp only [Act.put, List.setIfInBounds_toArray, List.set_cons_zero, List.set_cons_succ]
    refine mix_val (.pointer (some ⟨w.heap.size, 8, none⟩)) (by rfl) (fun _ _ => by go_simp) ?_
    simp only [Act.put, List.setIfInBounds_toArray, List.set_cons_zero, List.set_cons_succ]
    refine mix_load_int (by rfl) _ rfl ⟨w.heap.size, 8, none⟩ rfl (.int .i64 (v 8)) (fun _ hc => fact_cell 8 (by decide) hc.1) ?_
    simp only [Act.put, List.setIfInBounds_toArray, List.set_cons_zero, List.set_cons_succ]
    refine mix_call 65 #[.int .i64 (v 8)] (.bool true) (by rfl) (fun _ => by go_simp) H4.out ?_
    simp only [Act.put, List.setIfInBounds_toArray, List.set_cons_zero, List.set_cons_succ]
    refine mix_val (.bool true) (by rfl) (fun _ _ => by rfl) ?_
    simp only [Act.put, List.setIfInBounds_toArray, List.set_cons_zero, List.set_cons_succ]
    refine mix_val (.bool true) (by rfl) (fun _ _ => by rfl) ?_
    simp only [Act.put, List.setIfInBounds_toArray, List.set_cons_zero, List.set_cons_succ]
    refine mix_val (.pointer (some ⟨w.heap.size, 4, none⟩)) (by rfl) (fun _ _ => by go_simp) ?_
    simp only [Act.put, List.setIfInBounds_toArray, List.set_cons_zero, List.set_cons_succ]
    refine mix_load_int (by rfl) _ rfl ⟨w.heap.size, 4, none⟩ rfl (.int .i64 (v 4)) (fun _ hc => fact_cell 4 (by decide) hc.1) ?_
    simp only [Act.put, List.setIfInBounds_toArray, List.set_cons_zero, List.set_cons_succ]
    refine mix_call 49 #[.int .i64 (v 4), .int .i64 0, .int .i64 3155759999] (.bool true) (by rfl) (fun _ => by go_simp) H5.out ?_
    simp only [Act.put, List.setIfInBounds_toArray, List.set_cons_zero, List.set_cons_succ]
    refine mix_val (.bool true) (by rfl) (fun _ _ => by rfl) ?_
    simp only [Act.put, List.setIfInBounds_toArray, List.set_cons_zero, List.set_cons_succ]
    refine mix_val (.bool true) (by rfl) (fun _ _ => by rfl) ?_
    simp only [Act.put, List.setIfInBounds_toArray, List.set_cons_zero, List.set_cons_succ]
    refine mix_val (.pointer (some ⟨w.heap.size, 13, none⟩)) (by rfl) (fun _ _ => by go_simp) ?_
    simp only [Act.put, List.setIfInBounds_toArray, List.set_cons_zero, List.set_cons_succ]
    refine mix_load_int (by rfl) _ rfl ⟨w.heap.size, 13, none⟩ rfl (.int .i64 (v 13)) (fun _ hc => fact_cell 13 (by decide) hc.1) ?_
    simp only [Act.put, List.setIfInBounds_toArray, List.set_cons_zero, List.set_cons_succ]
    refine mix_call 49 #[.int .i64 (v 13), .int .i64 0, .int .i64 86400000] (.bool false) (by rfl) (fun _ => by go_simp) H6.out ?_
    simp only [Act.put, List.setIfInBounds_toArray, List.set_cons_zero, List.set_cons_succ]
    refine mix_val (.bool false) (by rfl) (fun _ _ => by rfl) ?_
    simp only [Act.put, List.setIfInBounds_toArray, List.set_cons_zero, List.set_cons_succ]
    refine mix_val (.bool false) (by rfl) (fun _ _ => by rfl) ?_
    simp only [Act.put, List.setIfInBounds_toArray, List.set_cons_zero, List.set_cons_succ]
    refine mix_off (by rfl) ?_
    simp only [Act.put, List.setIfInBounds_toArray, List.set_cons_zero, List.set_cons_succ]
    refine mix_off (by rfl) ?_
    simp only [Act.put, List.setIfInBounds_toArray, List.set_cons_zero, List.set_cons_succ]
    refine mix_off (by rfl) ?_
    simp only [Act.put, List.setIfInBounds_toArray, List.set_cons_zero, List.set_cons_succ]
    refine mix_val (.bool false) (by rfl) (fun _ _ => by rfl) ?_
    simp only [Act.put, List.setIfInBounds_toArray, List.set_cons_zero, List.set_cons_succ]
    refine mix_store_fact (by rfl) _ _ rfl (w.heap.size + 1) (keepV v) (keepT v t) rfl rfl _ R3.out rfl hone ⟨(setRow_other _ _ _ _ (by omega)).trans F3.out, (setRow_other _ _ _ _ (by omega)).trans G3.out⟩ ?_
    simp only [Act.put]
    refine mix_val (.bool false) (by rfl) (fun _ _ => by rfl) ?_
    simp only [Act.put, List.setIfInBounds_toArray, List.set_cons_zero, List.set_cons_succ]
    refine mix_done ?_
    go_wp2_with fail
    refine bodyPost_ret (results_fact_tmp rfl _ _ (w.heap.size + 1) (keepV v) (keepT v t) _ rfl (setRow_heap _ _ _ _ _ _ R3.out) rfl) rfl ?_
    exact ⟨rfl, below_setRow' (Below.drew (Below.drew (Below.drew (B3.out)))) _ _ (by omega)⟩
  rcases e7 with _ | _
  · refine wp_region_mix (fun w' => w'.heap[w.heap.size]? = some (.cells (factC v t) 40 (0, 0)) ∧ w'.heap[AG]? = some (.cells (factC (keepV v) (keepT v t)) 40 (0, 0))) [true, true, true, true, true, true, true, true, true, true, true, true, true, true, true, true, true, true, true, true, true, true, true, true, true, true, true, true, true, true, true, true, true, true, true, true, true, true, true, false, true] (by kernel_rfl) (by kernel_rfl) ⟨F3.out, G3.out⟩ ?_
    refine mix_load_fact (by rfl) _ rfl AG rfl (keepV v) (keepT v t) (fun _ hc => hc.2) ?_
    simp only [Act.put, List.setIfInBounds_toArray, List.set_cons_zero, List.set_cons_succ]
    refine mix_val (.pointer (some ⟨w.heap.size, 1, none⟩)) (by rfl) (fun _ _ => by go_simp) ?_
    simp only [Act.put, List.setIfInBounds_toArray, List.set_cons_zero, List.set_cons_succ]
    refine mix_load_int (by rfl) _ rfl ⟨w.heap.size, 1, none⟩ rfl (.int .i64 (v 1)) (fun _ hc => fact_cell 1 (by decide) hc.1) ?_
    simp only [Act.put, List.setIfInBounds_toArray, List.set_cons_zero, List.set_cons_succ]
    refine mix_call 64 #[.int .i64 (v 1)] (.bool true) (by rfl) (fun _ => by go_simp) H0.out ?_
    simp only [Act.put, List.setIfInBounds_toArray, List.set_cons_zero, List.set_cons_succ]
    refine mix_val (.bool true) (by rfl) (fun _ _ => by rfl) ?_
    simp only [Act.put, List.setIfInBounds_toArray, List.set_cons_zero, List.set_cons_succ]
    refine mix_val (.pointer (some ⟨w.heap.size, 5, none⟩)) (by rfl) (fun _ _ => by go_simp) ?_
    simp only [Act.put, List.setIfInBounds_toArray, List.set_cons_zero, List.set_cons_succ]
    refine mix_load_int (by rfl) _ rfl ⟨w.heap.size, 5, none⟩ rfl (.int .i64 (v 5)) (fun _ hc => fact_cell 5 (by decide) hc.1) ?_
    simp only [Act.put, List.setIfInBounds_toArray, List.set_cons_zero, List.set_cons_succ]
    refine mix_call 64 #[.int .i64 (v 5)] (.bool true) (by rfl) (fun _ => by go_simp) H1.out ?_
    simp only [Act.put, List.setIfInBounds_toArray, List.set_cons_zero, List.set_cons_succ]
    refine mix_val (.bool true) (by rfl) (fun _ _ => by rfl) ?_
    simp only [Act.put, List.setIfInBounds_toArray, List.set_cons_zero, List.set_cons_succ]
    refine mix_val (.bool true) (by rfl) (fun _ _ => by rfl) ?_
    simp only [Act.put, List.setIfInBounds_toArray, List.set_cons_zero, List.set_cons_succ]
    refine mix_val (.pointer (some ⟨w.heap.size, 6, none⟩)) (by rfl) (fun _ _ => by go_simp) ?_
    simp only [Act.put, List.setIfInBounds_toArray, List.set_cons_zero, List.set_cons_succ]
    refine mix_load_int (by rfl) _ rfl ⟨w.heap.size, 6, none⟩ rfl (.int .i64 (v 6)) (fun _ hc => fact_cell 6 (by decide) hc.1) ?_
    simp only [Act.put, List.setIfInBounds_toArray, List.set_cons_zero, List.set_cons_succ]
    refine mix_call 64 #[.int .i64 (v 6)] (.bool true) (by rfl) (fun _ => by go_simp) H2.out ?_
    simp only [Act.put, List.setIfInBounds_toArray, List.set_cons_zero, List.set_cons_succ]
    refine mix_val (.bool true) (by rfl) (fun _ _ => by rfl) ?_
    simp only [Act.put, List.setIfInBounds_toArray, List.set_cons_zero, List.set_cons_succ]
    refine mix_val (.bool true) (by rfl) (fun _ _ => by rfl) ?_
    simp only [Act.put, List.setIfInBounds_toArray, List.set_cons_zero, List.set_cons_succ]
    refine mix_val (.pointer (some ⟨w.heap.size, 7, none⟩)) (by rfl) (fun _ _ => by go_simp) ?_
    simp only [Act.put, List.setIfInBounds_toArray, List.set_cons_zero, List.set_cons_succ]
    refine mix_load_int (by rfl) _ rfl ⟨w.heap.size, 7, none⟩ rfl (.int .i64 (v 7)) (fun _ hc => fact_cell 7 (by decide) hc.1) ?_
    simp only [Act.put, List.setIfInBounds_toArray, List.set_cons_zero, List.set_cons_succ]
    refine mix_call 64 #[.int .i64 (v 7)] (.bool true) (by rfl) (fun _ => by go_simp) H3.out ?_
    simp only [Act.put, List.setIfInBounds_toArray, List.set_cons_zero, List.set_cons_succ]
    refine mix_val (.bool true) (by rfl) (fun _ _ => by rfl) ?_
    simp only [Act.put, List.setIfInBounds_toArray, List.set_cons_zero, List.set_cons_succ]
    refine mix_val (.bool true) (by rfl) (fun _ _ => by rfl) ?_
    simp only [Act.put, List.setIfInBounds_toArray, List.set_cons_zero, List.set_cons_succ]
    refine mix_val (.pointer (some ⟨w.heap.size, 8, none⟩)) (by rfl) (fun _ _ => by go_simp) ?_
    simp only [Act.put, List.setIfInBounds_toArray, List.set_cons_zero, List.set_cons_succ]
    refine mix_load_int (by rfl) _ rfl ⟨w.heap.size, 8, none⟩ rfl (.int .i64 (v 8)) (fun _ hc => fact_cell 8 (by decide) hc.1) ?_
    simp only [Act.put, List.setIfInBounds_toArray, List.set_cons_zero, List.set_cons_succ]
    refine mix_call 65 #[.int .i64 (v 8)] (.bool true) (by rfl) (fun _ => by go_simp) H4.out ?_
    simp only [Act.put, List.setIfInBounds_toArray, List.set_cons_zero, List.set_cons_succ]
    refine mix_val (.bool true) (by rfl) (fun _ _ => by rfl) ?_
    simp only [Act.put, List.setIfInBounds_toArray, List.set_cons_zero, List.set_cons_succ]
    refine mix_val (.bool true) (by rfl) (fun _ _ => by rfl) ?_
    simp only [Act.put, List.setIfInBounds_toArray, List.set_cons_zero, List.set_cons_succ]
    refine mix_val (.pointer (some ⟨w.heap.size, 4, none⟩)) (by rfl) (fun _ _ => by go_simp) ?_
    simp only [Act.put, List.setIfInBounds_toArray, List.set_cons_zero, List.set_cons_succ]
    refine mix_load_int (by rfl) _ rfl ⟨w.heap.size, 4, none⟩ rfl (.int .i64 (v 4)) (fun _ hc => fact_cell 4 (by decide) hc.1) ?_
    simp only [Act.put, List.setIfInBounds_toArray, List.set_cons_zero, List.set_cons_succ]
    refine mix_call 49 #[.int .i64 (v 4), .int .i64 0, .int .i64 3155759999] (.bool true) (by rfl) (fun _ => by go_simp) H5.out ?_
    simp only [Act.put, List.setIfInBounds_toArray, List.set_cons_zero, List.set_cons_succ]
    refine mix_val (.bool true) (by rfl) (fun _ _ => by rfl) ?_
    simp only [Act.put, List.setIfInBounds_toArray, List.set_cons_zero, List.set_cons_succ]
    refine mix_val (.bool true) (by rfl) (fun _ _ => by rfl) ?_
    simp only [Act.put, List.setIfInBounds_toArray, List.set_cons_zero, List.set_cons_succ]
    refine mix_val (.pointer (some ⟨w.heap.size, 13, none⟩)) (by rfl) (fun _ _ => by go_simp) ?_
    simp only [Act.put, List.setIfInBounds_toArray, List.set_cons_zero, List.set_cons_succ]
    refine mix_load_int (by rfl) _ rfl ⟨w.heap.size, 13, none⟩ rfl (.int .i64 (v 13)) (fun _ hc => fact_cell 13 (by decide) hc.1) ?_
    simp only [Act.put, List.setIfInBounds_toArray, List.set_cons_zero, List.set_cons_succ]
    refine mix_call 49 #[.int .i64 (v 13), .int .i64 0, .int .i64 86400000] (.bool true) (by rfl) (fun _ => by go_simp) H6.out ?_
    simp only [Act.put, List.setIfInBounds_toArray, List.set_cons_zero, List.set_cons_succ]
    refine mix_val (.bool true) (by rfl) (fun _ _ => by rfl) ?_
    simp only [Act.put, List.setIfInBounds_toArray, List.set_cons_zero, List.set_cons_succ]
    refine mix_val (.bool true) (by rfl) (fun _ _ => by rfl) ?_
    simp only [Act.put, List.setIfInBounds_toArray, List.set_cons_zero, List.set_cons_succ]
    refine mix_val (.pointer (some ⟨w.heap.size, 16, none⟩)) (by rfl) (fun _ _ => by go_simp) ?_
    simp only [Act.put, List.setIfInBounds_toArray, List.set_cons_zero, List.set_cons_succ]
    refine mix_load_int (by rfl) _ rfl ⟨w.heap.size, 16, none⟩ rfl (.int .i64 (v 16)) (fun _ hc => fact_cell 16 (by decide) hc.1) ?_
    simp only [Act.put, List.setIfInBounds_toArray, List.set_cons_zero, List.set_cons_succ]
    refine mix_call 49 #[.int .i64 (v 16), .int .i64 0, .int .i64 1] (.bool false) (by rfl) (fun _ => by go_simp) H7.out ?_
    simp only [Act.put, List.setIfInBounds_toArray, List.set_cons_zero, List.set_cons_succ]
    refine mix_val (.bool false) (by rfl) (fun _ _ => by rfl) ?_
    simp only [Act.put, List.setIfInBounds_toArray, List.set_cons_zero, List.set_cons_succ]
    refine mix_store_fact (by rfl) _ _ rfl (w.heap.size + 1) (keepV v) (keepT v t) rfl rfl _ R3.out rfl hone ⟨(setRow_other _ _ _ _ (by omega)).trans F3.out, (setRow_other _ _ _ _ (by omega)).trans G3.out⟩ ?_
    simp only [Act.put]
    refine mix_val (.bool false) (by rfl) (fun _ _ => by rfl) ?_
    simp only [Act.put, List.setIfInBounds_toArray, List.set_cons_zero, List.set_cons_succ]
    refine mix_done ?_
    go_wp2_with fail
    refine bodyPost_ret (results_fact_tmp rfl _ _ (w.heap.size + 1) (keepV v) (keepT v t) _ rfl (setRow_heap _ _ _ _ _ _ R3.out) rfl) rfl ?_
    exact ⟨rfl, below_setRow' (Below.drew (Below.drew (Below.drew (B3.out)))) _ _ (by omega)⟩
  refine wp_region_mix (fun w' => w'.heap[w.heap.size]? = some (.cells (factC v t) 40 (0, 0)) ∧ w'.heap[AG]? = some (.cells (factC (keepV v) (keepT v t)) 40 (0, 0))) [true, true, true, true, true, true, true, true, true, true, true, true, true, true, true, true, true, true, true, true, true, true, true, true, true, true, true, true, true, true, true, true, true, true, true, true, true, true, true, false, true] (by kernel_rfl) (by kernel_rfl) ⟨F3.out, G3.out⟩ ?_
  refine mix_load_fact (by rfl) _ rfl AG rfl (keepV v) (keepT v t) (fun _ hc => hc.2) ?_
  simp only [Act.put, List.setIfInBounds_toArray, List.set_cons_zero, List.set_cons_succ]
  refine mix_val (.pointer (some ⟨w.heap.size, 1, none⟩)) (by rfl) (fun _ _ => by go_simp) ?_
  simp only [Act.put, List.setIfInBounds_toArray, List.set_cons_zero, List.set_cons_succ]
  refine mix_load_int (by rfl) _ rfl ⟨w.heap.size, 1, none⟩ rfl (.int .i64 (v 1)) (fun _ hc => fact_cell 1 (by decide) hc.1) ?_
  simp only [Act.put, List.setIfInBounds_toArray, List.set_cons_zero, List.set_cons_succ]
  refine mix_call 64 #[.int .i64 (v 1)] (.bool true) (by rfl) (fun _ => by go_simp) H0.out ?_
  simp only [Act.put, List.setIfInBounds_toArray, List.set_cons_zero, List.set_cons_succ]
  refine mix_val (.bool true) (by rfl) (fun _ _ => by rfl) ?_
  simp only [Act.put, List.setIfInBounds_toArray, List.set_cons_zero, List.set_cons_succ]
  refine mix_val (.pointer (some ⟨w.heap.size, 5, none⟩)) (by rfl) (fun _ _ => by go_simp) ?_
  simp only [Act.put, List.setIfInBounds_toArray, List.set_cons_zero, List.set_cons_succ]
  refine mix_load_int (by rfl) _ rfl ⟨w.heap.size, 5, none⟩ rfl (.int .i64 (v 5)) (fun _ hc => fact_cell 5 (by decide) hc.1) ?_
  simp only [Act.put, List.setIfInBounds_toArray, List.set_cons_zero, List.set_cons_succ]
  refine mix_call 64 #[.int .i64 (v 5)] (.bool true) (by rfl) (fun _ => by go_simp) H1.out ?_
  simp only [Act.put, List.setIfInBounds_toArray, List.set_cons_zero, List.set_cons_succ]
  refine mix_val (.bool true) (by rfl) (fun _ _ => by rfl) ?_
  simp only [Act.put, List.setIfInBounds_toArray, List.set_cons_zero, List.set_cons_succ]
  refine mix_val (.bool true) (by rfl) (fun _ _ => by rfl) ?_
  simp only [Act.put, List.setIfInBounds_toArray, List.set_cons_zero, List.set_cons_succ]
  refine mix_val (.pointer (some ⟨w.heap.size, 6, none⟩)) (by rfl) (fun _ _ => by go_simp) ?_
  simp only [Act.put, List.setIfInBounds_toArray, List.set_cons_zero, List.set_cons_succ]
  refine mix_load_int (by rfl) _ rfl ⟨w.heap.size, 6, none⟩ rfl (.int .i64 (v 6)) (fun _ hc => fact_cell 6 (by decide) hc.1) ?_
  simp only [Act.put, List.setIfInBounds_toArray, List.set_cons_zero, List.set_cons_succ]
  refine mix_call 64 #[.int .i64 (v 6)] (.bool true) (by rfl) (fun _ => by go_simp) H2.out ?_
  simp only [Act.put, List.setIfInBounds_toArray, List.set_cons_zero, List.set_cons_succ]
  refine mix_val (.bool true) (by rfl) (fun _ _ => by rfl) ?_
  simp only [Act.put, List.setIfInBounds_toArray, List.set_cons_zero, List.set_cons_succ]
  refine mix_val (.bool true) (by rfl) (fun _ _ => by rfl) ?_
  simp only [Act.put, List.setIfInBounds_toArray, List.set_cons_zero, List.set_cons_succ]
  refine mix_val (.pointer (some ⟨w.heap.size, 7, none⟩)) (by rfl) (fun _ _ => by go_simp) ?_
  simp only [Act.put, List.setIfInBounds_toArray, List.set_cons_zero, List.set_cons_succ]
  refine mix_load_int (by rfl) _ rfl ⟨w.heap.size, 7, none⟩ rfl (.int .i64 (v 7)) (fun _ hc => fact_cell 7 (by decide) hc.1) ?_
  simp only [Act.put, List.setIfInBounds_toArray, List.set_cons_zero, List.set_cons_succ]
  refine mix_call 64 #[.int .i64 (v 7)] (.bool true) (by rfl) (fun _ => by go_simp) H3.out ?_
  simp only [Act.put, List.setIfInBounds_toArray, List.set_cons_zero, List.set_cons_succ]
  refine mix_val (.bool true) (by rfl) (fun _ _ => by rfl) ?_
  simp only [Act.put, List.setIfInBounds_toArray, List.set_cons_zero, List.set_cons_succ]
  refine mix_val (.bool true) (by rfl) (fun _ _ => by rfl) ?_
  simp only [Act.put, List.setIfInBounds_toArray, List.set_cons_zero, List.set_cons_succ]
  refine mix_val (.pointer (some ⟨w.heap.size, 8, none⟩)) (by rfl) (fun _ _ => by go_simp) ?_
  simp only [Act.put, List.setIfInBounds_toArray, List.set_cons_zero, List.set_cons_succ]
  refine mix_load_int (by rfl) _ rfl ⟨w.heap.size, 8, none⟩ rfl (.int .i64 (v 8)) (fun _ hc => fact_cell 8 (by decide) hc.1) ?_
  simp only [Act.put, List.setIfInBounds_toArray, List.set_cons_zero, List.set_cons_succ]
  refine mix_call 65 #[.int .i64 (v 8)] (.bool true) (by rfl) (fun _ => by go_simp) H4.out ?_
  simp only [Act.put, List.setIfInBounds_toArray, List.set_cons_zero, List.set_cons_succ]
  refine mix_val (.bool true) (by rfl) (fun _ _ => by rfl) ?_
  simp only [Act.put, List.setIfInBounds_toArray, List.set_cons_zero, List.set_cons_succ]
  refine mix_val (.bool true) (by rfl) (fun _ _ => by rfl) ?_
  simp only [Act.put, List.setIfInBounds_toArray, List.set_cons_zero, List.set_cons_succ]
  refine mix_val (.pointer (some ⟨w.heap.size, 4, none⟩)) (by rfl) (fun _ _ => by go_simp) ?_
  simp only [Act.put, List.setIfInBounds_toArray, List.set_cons_zero, List.set_cons_succ]
  refine mix_load_int (by rfl) _ rfl ⟨w.heap.size, 4, none⟩ rfl (.int .i64 (v 4)) (fun _ hc => fact_cell 4 (by decide) hc.1) ?_
  simp only [Act.put, List.setIfInBounds_toArray, List.set_cons_zero, List.set_cons_succ]
  refine mix_call 49 #[.int .i64 (v 4), .int .i64 0, .int .i64 3155759999] (.bool true) (by rfl) (fun _ => by go_simp) H5.out ?_
  simp only [Act.put, List.setIfInBounds_toArray, List.set_cons_zero, List.set_cons_succ]
  refine mix_val (.bool true) (by rfl) (fun _ _ => by rfl) ?_
  simp only [Act.put, List.setIfInBounds_toArray, List.set_cons_zero, List.set_cons_succ]
  refine mix_val (.bool true) (by rfl) (fun _ _ => by rfl) ?_
  simp only [Act.put, List.setIfInBounds_toArray, List.set_cons_zero, List.set_cons_succ]
  refine mix_val (.pointer (some ⟨w.heap.size, 13, none⟩)) (by rfl) (fun _ _ => by go_simp) ?_
  simp only [Act.put, List.setIfInBounds_toArray, List.set_cons_zero, List.set_cons_succ]
  refine mix_load_int (by rfl) _ rfl ⟨w.heap.size, 13, none⟩ rfl (.int .i64 (v 13)) (fun _ hc => fact_cell 13 (by decide) hc.1) ?_
  simp only [Act.put, List.setIfInBounds_toArray, List.set_cons_zero, List.set_cons_succ]
  refine mix_call 49 #[.int .i64 (v 13), .int .i64 0, .int .i64 86400000] (.bool true) (by rfl) (fun _ => by go_simp) H6.out ?_
  simp only [Act.put, List.setIfInBounds_toArray, List.set_cons_zero, List.set_cons_succ]
  refine mix_val (.bool true) (by rfl) (fun _ _ => by rfl) ?_
  simp only [Act.put, List.setIfInBounds_toArray, List.set_cons_zero, List.set_cons_succ]
  refine mix_val (.bool true) (by rfl) (fun _ _ => by rfl) ?_
  simp only [Act.put, List.setIfInBounds_toArray, List.set_cons_zero, List.set_cons_succ]
  refine mix_val (.pointer (some ⟨w.heap.size, 16, none⟩)) (by rfl) (fun _ _ => by go_simp) ?_
  simp only [Act.put, List.setIfInBounds_toArray, List.set_cons_zero, List.set_cons_succ]
  refine mix_load_int (by rfl) _ rfl ⟨w.heap.size, 16, none⟩ rfl (.int .i64 (v 16)) (fun _ hc => fact_cell 16 (by decide) hc.1) ?_
  simp only [Act.put, List.setIfInBounds_toArray, List.set_cons_zero, List.set_cons_succ]
  refine mix_call 49 #[.int .i64 (v 16), .int .i64 0, .int .i64 1] (.bool true) (by rfl) (fun _ => by go_simp) H7.out ?_
  simp only [Act.put, List.setIfInBounds_toArray, List.set_cons_zero, List.set_cons_succ]
  refine mix_val (.bool true) (by rfl) (fun _ _ => by rfl) ?_
  simp only [Act.put, List.setIfInBounds_toArray, List.set_cons_zero, List.set_cons_succ]
  refine mix_store_fact (by rfl) _ _ rfl (w.heap.size + 1) (keepV v) (keepT v t) rfl rfl _ R3.out rfl hone ⟨(setRow_other _ _ _ _ (by omega)).trans F3.out, (setRow_other _ _ _ _ (by omega)).trans G3.out⟩ ?_
  simp only [Act.put]
  refine mix_val (.bool true) (by rfl) (fun _ _ => by rfl) ?_
  simp only [Act.put, List.setIfInBounds_toArray, List.set_cons_zero, List.set_cons_succ]
  refine mix_done ?_
  go_wp2_with fail
  refine bodyPost_ret (results_fact_tmp rfl _ _ (w.heap.size + 1) (keepV v) (keepT v t) _ rfl (setRow_heap _ _ _ _ _ _ R3.out) rfl) rfl ?_
  exact ⟨rfl, below_setRow' (Below.drew (Below.drew (Below.drew (B3.out)))) _ _ (by omega)⟩

end Go.Proofs.YtnndnjnpkjpkpaaGreatDoor
