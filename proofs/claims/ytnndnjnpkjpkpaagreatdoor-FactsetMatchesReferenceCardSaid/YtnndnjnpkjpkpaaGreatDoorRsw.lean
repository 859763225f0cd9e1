/- Rows of cells: copying within a row, storing into its middle; a row with one element put in. For any program. -/
import Derived.Test.YtnndnjnpkjpkpaaGreatDoorRsp
import Derived.Laws.CopyRow
namespace Go.Proofs.YtnndnjnpkjpkpaaGreatDoor
open Go Go.RowKit Go.Maps
/-- copy into a row, for elements of any size. -/
theorem run_copy_row_n {P : Program} (w : World) (dT sT ty elem : TypeId) (size g o dLen dCap : Nat) (a : Addr) (sLen sCap : Nat) (cur : Array Value) (t : TypeId) (cs : List Value)
    (hu : P.underlying dT = some (.slice elem)) (hs : (P.info? elem).map (·.size) = some size)
    (hg : w.heap[g]? = some (.cells cur t (0, 0))) (hn : cs.length = Nat.min sLen dLen * size)
    (hsrc : ∀ j v, cs[j]? = some v → w.cell? (a.add j) = some v) (hfit : o + cs.length ≤ cur.size) (h1 : ∀ v ∈ cs, v.oneCell' = true) :
    (Builtin.copy_ #[dT, sT] ty #[.slice (some ⟨g, o, none⟩) dLen dCap, .slice (some a) sLen sCap]).run P w =
      .ok (goInt (Nat.min sLen dLen)) (w.setRow g (cur.toList.take o ++ cs ++ cur.toList.drop (o + cs.length)).toArray) := by
  have hl := run_loadCells_list (P := P) w a cs hsrc
  have hst := run_storeCells_at P g o t cs 0 cur w hg (by simpa using hfit) h1
  cases hq : P.info? elem with
  | none => simp [hq] at hs
  | some i =>
    have hi : i.size = size := by simpa [hq] using hs
    simp [Builtin.copy_, run_underlying hu, Builtin.lenOf, Builtin.firstCells, sizeOf, typeInfo, hq, hi, ← hn, hl, hst]
/-- A value of several cells is stored into the middle of a row. -/
theorem run_storeVar_at {P : Program} (w : World) (g o : Nat) (t ty : TypeId) (cur cells : Array Value) (hg : w.heap[g]? = some (.cells cur t (0, 0))) (hi : (P.info? ty).map (·.size) = some cells.size)
    (hfit : o + cells.size ≤ cur.size) (h1 : cells.all (·.oneCell') = true) :
    (storeVar ty ⟨g, o, none⟩ (.agg cells)).run P w = .ok () (w.setRow g (cur.toList.take o ++ cells.toList ++ cur.toList.drop (o + cells.toList.length)).toArray) := by
  have hst := run_storeCells_at P g o t cells.toList 0 cur w hg (by simpa using hfit) (fun v hv => (Array.all_eq_true_iff_forall_mem.1 h1) v (by simpa using hv))
  cases hq : P.info? ty with
  | none => simp [hq] at hi
  | some i =>
    have hs : cells.size = i.size := by simp [hq] at hi; omega
    simp only [Nat.add_zero] at hst
    simp [storeVar, sizeOf, typeInfo, hq, Value.cells, hs, hst]
/-- What stands in the row when one element has been put in: the last one is moved to its place. -/
theorem shift_cells {a b e r : List Value} : ((((a ++ b ++ e ++ r).take (a.length + e.length) ++ ((a ++ b ++ e ++ r).drop a.length).take b.length ++ (a ++ b ++ e ++ r).drop (a.length + e.length + b.length)).take a.length) ++ e ++
    (((a ++ b ++ e ++ r).take (a.length + e.length) ++ ((a ++ b ++ e ++ r).drop a.length).take b.length ++ (a ++ b ++ e ++ r).drop (a.length + e.length + b.length)).drop (a.length + e.length))) = a ++ e ++ b ++ r := by
  have h1 : (a ++ b ++ e ++ r).drop a.length = b ++ (e ++ r) := by rw [List.append_assoc, List.append_assoc, List.drop_left]
  have h2 : ((a ++ b ++ e ++ r).drop a.length).take b.length = b := by rw [h1, List.take_left]
  have h3 : (a ++ b ++ e ++ r).drop (a.length + e.length + b.length) = r := by
    rw [show a.length + e.length + b.length = (a ++ b ++ e).length by simp only [List.length_append]; omega, List.drop_left]
  have h4 : (a ++ b ++ e ++ r).take (a.length + e.length) = a ++ (b ++ (e ++ r)).take e.length := by
    rw [List.append_assoc, List.append_assoc, List.take_length_add_append]
  obtain ⟨h, hh⟩ : ∃ h, (b ++ (e ++ r)).take e.length = h := ⟨_, rfl⟩
  have hl : h.length = e.length := by rw [← hh, List.length_take, List.length_append, List.length_append]; omega
  rw [h2, h3, h4, hh]
  have h5 : (a ++ h ++ b ++ r).take a.length = a := by rw [List.append_assoc, List.append_assoc, List.take_left]
  have h6 : (a ++ h ++ b ++ r).drop (a.length + e.length) = b ++ r := by
    rw [← hl, ← List.length_append, List.append_assoc, List.drop_left]
  rw [h5, h6]
  simp only [List.append_assoc]
theorem cellsR_one (l : List El) : ∀ u ∈ cellsR l, u.oneCell' = true := fun u hu => by
  unfold cellsR at hu
  obtain ⟨e, _, he⟩ := List.mem_flatMap.1 hu
  exact Array.all_eq_true_iff_forall_mem.1 (elC_one e) u (Array.mem_def.2 he)
/-- The row of a set with one element at its end, the place of which is m: its parts. -/
theorem row_parts {cur : Array Value} {l : List El} {x : El} {m : Nat} (htk : cur.toList.take ((l.length + 1) * 19) = cellsR (l ++ [x])) :
    ∃ r, cur.toList = cellsR (l.take m) ++ cellsR (l.drop m) ++ (elC x).toList ++ r := by
  refine ⟨cur.toList.drop ((l.length + 1) * 19), ?_⟩
  rw [← cellsR_append, List.take_append_drop, ← cellsR_snoc, ← htk, List.take_append_drop]
theorem part_lens {l : List El} {m : Nat} (hm : m ≤ l.length) : (cellsR (l.take m)).length = m * 19 ∧ (cellsR (l.drop m)).length = (l.length - m) * 19 := by
  rw [cellsR_length, cellsR_length, List.length_take, List.length_drop]
  omega
theorem hs19 : (Tryz.prog.info? 69).map (·.size) = some 19 := by kernel_rfl
/-- The elements behind the place move up. -/
theorem copy_shift {w : World} {cur : Array Value} {g : Nat} {l : List El} {x : El} {m cap : Nat} (hg : w.heap[g]? = some (.cells cur 69 (0, 0))) (hm : m ≤ l.length) (hcap : l.length + 1 ≤ cap) (hsz : cur.size = cap * 19)
    (htk : cur.toList.take ((l.length + 1) * 19) = cellsR (l ++ [x])) (ty : TypeId) (o : Nat) (ho : o = (m + 1) * 19 ∨ (o = 0 ∧ m = l.length)) :
    ∃ k c2, (Builtin.copy_ #[31, 31] ty #[.slice (some ⟨g, o, none⟩) (l.length + 1 - (m + 1)) (cap - (m + 1)), .slice (some ⟨g, m * 19, none⟩) (l.length + 1 - m) (cap - m)]).run Tryz.prog w = .ok (goInt k) (w.setRow g c2) ∧
      c2.size = cur.size ∧ c2.toList = cur.toList.take ((m + 1) * 19) ++ cellsR (l.drop m) ++ cur.toList.drop ((m + 1) * 19 + (cellsR (l.drop m)).length) := by
  obtain ⟨r, hr⟩ := row_parts (m := m) htk
  obtain ⟨ha, hb⟩ := part_lens hm
  have hmin : Nat.min (l.length + 1 - m) (l.length + 1 - (m + 1)) = l.length - m := by show min (l.length + 1 - m) (l.length + 1 - (m + 1)) = l.length - m; omega
  rcases ho with rfl | ⟨rfl, hml⟩
  · have h := run_copy_row_n (P := Tryz.prog) w 31 31 ty 69 19 g ((m + 1) * 19) (l.length + 1 - (m + 1)) (cap - (m + 1)) ⟨g, m * 19, none⟩ (l.length + 1 - m) (cap - m) cur 69 (cellsR (l.drop m))
      Tryz.underlying31 hs19 hg (by rw [hb, hmin]) (fun j v hv => by
        have hj : j < (cellsR (l.drop m)).length := (List.getElem?_eq_some_iff.1 hv).1
        have e : Addr.add ⟨g, m * 19, none⟩ j = ⟨g, m * 19 + j, none⟩ := by unfold Addr.add; split <;> simp_all
        rw [e, cell_of_row _ _ _ _ _ _ hg, ← Array.getElem?_toList, hr, List.append_assoc, List.append_assoc, List.getElem?_append_right (by rw [ha]; omega), ha, Nat.add_sub_cancel_left, List.getElem?_append_left hj]
        exact hv) (by rw [hb, hsz]; omega) (cellsR_one _)
    refine ⟨_, _, h, ?_, rfl⟩
    rw [List.size_toArray, List.length_append, List.length_append, List.length_take, List.length_drop, Array.length_toList, hb, hsz]
    omega
  · have hd : l.drop m = [] := by rw [hml]; exact List.drop_length
    have h := run_copy_row_n (P := Tryz.prog) w 31 31 ty 69 19 g 0 (l.length + 1 - (m + 1)) (cap - (m + 1)) ⟨g, m * 19, none⟩ (l.length + 1 - m) (cap - m) cur 69 []
      Tryz.underlying31 hs19 hg (by rw [hmin, hml]; simp) (fun j v hv => by simp at hv) (by simp) (fun v hv => by simp at hv)
    refine ⟨_, _, h, ?_, ?_⟩
    · simp
    · rw [hd]
      simp [cellsR]
/-- The element goes to its place. -/
theorem store_shift {w : World} {cur c2 : Array Value} {g : Nat} {l : List El} {x : El} {m cap : Nat} (hg : w.heap[g]? = some (.cells c2 69 (0, 0))) (hm : m ≤ l.length) (hcap : l.length + 1 ≤ cap) (hsz : cur.size = cap * 19)
    (htk : cur.toList.take ((l.length + 1) * 19) = cellsR (l ++ [x])) (h2 : c2.size = cur.size) (hc : c2.toList = cur.toList.take ((m + 1) * 19) ++ cellsR (l.drop m) ++ cur.toList.drop ((m + 1) * 19 + (cellsR (l.drop m)).length)) :
    ∃ c3, (storeVar 69 ⟨g, m * 19, none⟩ (.agg (elC x))).run Tryz.prog w = .ok () (w.setRow g c3) ∧ c3.size = cap * 19 ∧ c3.toList.take ((l.length + 1) * 19) = cellsR (l.take m ++ x :: l.drop m) := by
  obtain ⟨r, hr⟩ := row_parts (m := m) htk
  obtain ⟨ha, hb⟩ := part_lens hm
  have he : (elC x).toList.length = 19 := rfl
  have he2 : (elC x).size = 19 := rfl
  have h := run_storeVar_at (P := Tryz.prog) w g (m * 19) 69 69 c2 (elC x) hg hs19 (by rw [h2, hsz, he2]; omega) (elC_one x)
  refine ⟨_, h, ?_, ?_⟩
  · rw [List.size_toArray, List.length_append, List.length_append, List.length_take, List.length_drop, Array.length_toList, h2, hsz, he]
    omega
  · have hs := shift_cells (a := cellsR (l.take m)) (b := cellsR (l.drop m)) (e := (elC x).toList) (r := r)
    rw [← hr, ha, he] at hs
    rw [hc, he, show m * 19 + 19 = (m + 1) * 19 by omega]
    rw [show m * 19 + 19 = (m + 1) * 19 by omega] at hs
    have h3 : (cur.toList.drop (m * 19)).take (cellsR (l.drop m)).length = cellsR (l.drop m) := by
      rw [hr, List.append_assoc, List.append_assoc, ← ha, List.drop_left, List.take_left]
    rw [h3] at hs
    rw [hs, cellsR_append, cellsR_cons]
    rw [show (l.length + 1) * 19 = (cellsR (l.take m) ++ (elC x).toList ++ cellsR (l.drop m)).length by rw [List.length_append, List.length_append, ha, hb, he]; omega, List.take_left]
    simp only [List.append_assoc]
end Go.Proofs.YtnndnjnpkjpkpaaGreatDoor
