/- FactsetLookups' plain side: what stands at one place of a set's lists; how rows of one's own lie; stores into them; steps of a drawn region over facts. -/
import Derived.Test.YtmhphmolbjjopaaDoorLaidi
import Derived.Test.YtmhphmolbjjopaaDoorMxp
import Derived.Deep.MidRow
namespace Go.Proofs.YtmhphmolbjjopaaDoor
open Go Go.RowKit Go.Maps
theorem RowS.lays {w : World} {base : Nat} {v : Value} {l : List Bs} (h : RowS w base v l) : ∃ A cap, v = .slice A l.length cap ∧ l.length ≤ cap ∧ HS w A l ∧ (l = [] ∨ ∃ g, A = some ⟨g, 0, none⟩ ∧ base ≤ g ∧ w.there g 0 l.length) := by
  obtain ⟨A, c, e, hc, hs⟩ := RowS.slice h
  refine ⟨A, c, e, hc, Lib.hid hs, ?_⟩
  rcases h.2 with ⟨hv, hn⟩ | ⟨g, cap, cur, hv, hb, hg, hn, hm, hz, ht⟩
  · exact .inl (List.length_eq_zero_iff.1 hn)
  · rw [hv] at e
    injection e with e1 e2 e3
    refine .inr ⟨g, e1.symm, hb, fun j hj => ⟨?_, frozen_of_row _ _ _ _ _ hg⟩⟩
    rw [cell_of_row _ _ _ _ _ _ hg, Nat.zero_add, Array.getElem?_eq_getElem (show j < cur.size by omega)]
    rfl
theorem RowF.lays {w : World} {base : Nat} {v : Value} {fs : List OkF} (h : RowF w base v fs) : ∃ A cap, v = .slice A fs.length cap ∧ fs.length ≤ cap ∧ FactsS w A (fs.map (·.1)) ∧ (fs = [] ∨ ∃ g, A = some ⟨g, 0, none⟩ ∧ base ≤ g ∧ w.there g 0 (fs.length * 18)) := by
  obtain ⟨A, c, e, hc, hs⟩ := RowA.slice (RowF.rowA h)
  rw [List.length_map] at e hc
  refine ⟨A, c, e, hc, hs, ?_⟩
  rcases h.2 with ⟨hv, hn⟩ | ⟨g, cap, cur, hv, hb, hg, hn, hm, hz, ht⟩
  · exact .inl (List.length_eq_zero_iff.1 hn)
  · rw [hv] at e
    injection e with e1 e2 e3
    refine .inr ⟨g, e1.symm, hb, fun j hj => ⟨?_, frozen_of_row _ _ _ _ _ hg⟩⟩
    rw [cell_of_row _ _ _ _ _ _ hg, Nat.zero_add, Array.getElem?_eq_getElem (show j < cur.size by omega)]
    rfl
theorem there_part {w : World} {b n o m : Nat} (h : w.there b 0 n) (hm : o + m ≤ n) : w.there b o m := fun j hj => by
  have := h (o + j) (by omega)
  rwa [Nat.zero_add] at this
theorem there_keep {w w' : World} {b o n : Nat} (h : w.there b o n) (hb : Below w.heap.size w w') : w'.there b o n := fun j hj => by
  obtain ⟨h1, h2⟩ := h j hj
  obtain ⟨v, hv⟩ := Option.isSome_iff_exists.1 h1
  have hlt := lt_of_cell hv
  refine ⟨by rw [hb.cell hlt]; exact h1, by rw [World.frozen?_of_block (hb.block _ hlt)]; exact h2⟩
theorem grown_setCell6 (w : World) (a : Addr) (u : Value) : w.grownBy (w.setCell a u) (some a.block) :=
  ⟨rfl, rfl, rfl, by simp, fun k hk hne => by
    have : k ≠ a.block := fun e => hne (by rw [e])
    simp only [World.setCell]
    rw [Array.getElem?_modify, if_neg (fun e => this e.symm)]⟩
theorem grown_setCells6 (b : Nat) : ∀ (vs : List Value) (o : Nat) (w : World), w.grownBy (w.setCells b o vs) (some b)
  | [], _, _ => ⟨rfl, rfl, rfl, Nat.le_refl _, fun _ _ _ => rfl⟩
  | v :: r, o, w => grown_trans (grown_setCell6 w ⟨b, o, none⟩ v) (grown_setCells6 b r (o + 1) _)
theorem at_fact {fs : List OkF} (hA : Asc (fs.map entF)) {i : Nat} (hi : i < fs.length) : okA ((fs.map (·.1)).getD i zeroA) = true ∧ (idsE (fs.map entF)).getD i [] = keyF ((fs.map (·.1)).getD i zeroA) ∧ getE (fs.map entF) (keyF ((fs.map (·.1)).getD i zeroA)) = some (valF ((fs.map (·.1)).getD i zeroA)) := by
  have e1 : (fs.map (·.1)).getD i zeroA = (fs[i]).1 := by
    rw [List.getD_eq_getElem?_getD, List.getElem?_map, List.getElem?_eq_getElem hi]; rfl
  have e2 : (idsE (fs.map entF)).getD i [] = keyF (fs[i]).1 := by
    unfold idsE
    rw [List.getD_eq_getElem?_getD, List.getElem?_map, List.getElem?_map, List.getElem?_eq_getElem hi]; rfl
  rw [e1, e2]
  refine ⟨(fs[i]).2, rfl, mem_getE hA ?_⟩
  exact List.mem_map_of_mem (f := entF) (List.getElem_mem hi)
theorem ids_asc {es : List Ent} (h : Asc es) : (idsE es).Pairwise (fun a b => Op.bytesLess a b = true) := by
  unfold idsE
  rw [List.pairwise_map]
  exact h
theorem ids_has {es : List Ent} (h : Asc es) (k : Bs) : k ∈ idsE es ↔ hasE es k = true := mem_keys h k
theorem asc_getL {l : List Bs} (h : l.Pairwise (fun a b => Op.bytesLess a b = true)) {i j : Nat} (hij : i < j) (hj : j < l.length) : Op.bytesLess (l.getD i []) (l.getD j []) = true := by
  have h1 := List.pairwise_iff_getElem.1 h i j (by omega) hj hij
  rw [List.getD_eq_getElem?_getD, List.getD_eq_getElem?_getD, List.getElem?_eq_getElem hj, List.getElem?_eq_getElem (show i < l.length by omega)]; exact h1
theorem ls_not {X Y : Bs} (h : Op.bytesLess X Y = true) : Op.bytesLess Y X = false ∧ (Y == X) = false := by
  constructor
  · cases hb : Op.bytesLess Y X with
    | false => rfl
    | true => exact absurd (ls_trans h hb) (by rw [ls_irr]; decide)
  · rw [beq_eq_false_iff_ne]
    rintro rfl
    rw [ls_irr] at h; cases h
theorem mem_take_succ {l : List Bs} {x : Bs} {j : Nat} (hj : j < l.length) : x ∈ l.take (j + 1) ↔ x ∈ l.take j ∨ l.getD j [] = x := by
  rw [List.take_add_one, List.getElem?_eq_getElem hj, List.mem_append, List.getD_eq_getElem?_getD, List.getElem?_eq_getElem hj]
  simp only [Option.toList_some, List.mem_singleton, Option.getD_some]
  exact ⟨fun h => h.imp id Eq.symm, fun h => h.imp id Eq.symm⟩
section
variable {P : Program} {ops : Array Oper} {C : World → Prop} {Q : Exit → Act → World → Prop}
theorem wp_region_mixM {id : Nat} {a : Act} {w : World} {l : List Oper} (C : World → Prop) (bs : List Bool) (hm : P.follows .mixedOrders = true) (hB : (Region.noSelect l.toArray && (decide (bs.length = l.length) && mixB .any l.toArray bs 0 (Array.replicate l.toArray.size false))) = true)
    (hC : C { w with drawn := w.drawn + 1 }) (h : ∀ w', C w' → wpMix P l.toArray (NoPanic Q) C bs l a w') : (Code.region id l.toArray true).wp P Q a w :=
  wp_region_mix C bs hm hB hC (h _ hC)
end
section
variable {ops : Array Oper} {C : World → Prop} {Q : Exit → Act → World → Prop}
theorem mix_load_at {o : Oper} {l : List Oper} {bs : List Bool} {a : Act} {w : World} (hw : Region.wanted o (yielded ops a.tmps) = true) (x : Operand) (ho : o.op = .load 33 x) (b k : Nat) (hx : a.eval x = .pointer (some ⟨b, k, none⟩)) (v : Nat → Int) (t : ByteArray)
    (hv : ∀ w', C w' → ∀ j x, (factC v t)[j]? = some x → w'.cell? ⟨b, k + j, none⟩ = some x) (h : wpMix Tryd.prog ops Q C bs l (a.put o.dst (.agg (factC v t))) w) : wpMix Tryd.prog ops Q C (true :: bs) (o :: l) a w :=
  mix_val _ hw (fun w' hc => by
    unfold execOp
    simp only [ho, hx, Instr.loadAt, Instr.sureAddr, Sem.run_bind, Sem.run_pure, Result.andThen_ok, run_load_at w' b k v t (hv w' hc)]) h
theorem mix_neF {o : Oper} {l : List Oper} {bs : List Bool} {a : Act} {w : World} (hw : Region.wanted o (yielded ops a.tmps) = true) (x y : Operand) (t2 : TypeId) (ho : o.op = .binOp .neq 33 x y t2) (f : Fa) (hx : a.eval x = .agg (factC f.1 f.2)) (hy : a.eval y = .agg (factC f.1 f.2))
    (h : wpMix Tryd.prog ops Q C bs l (a.put o.dst (.bool false)) w) : wpMix Tryd.prog ops Q C (true :: bs) (o :: l) a w :=
  mix_val (.bool false) hw (fun w' _ => by
    have hl := runNe f f w'
    rw [(eqB_val f f).2 rfl] at hl
    generalize factC f.1 f.2 = c1 at *
    have he : (eqGuard .neq 33 x y (.agg c1) (.agg c1)).run Tryd.prog w' = .ok () w' := by
      simp [eqGuard]
    unfold execOp
    simp only [ho, hx, hy, hl, he, Sem.run_bind, Sem.run_pure, Result.andThen_ok, Bool.not_true]) h
end
end Go.Proofs.YtmhphmolbjjopaaDoor
