/- A law for appending a slice of strings to a row of one's own. -/
import Derived.Test.YtinioifhbafngaaDoorAny
import Derived.Maps.AppendAt
namespace Go.Proofs.YtinioifhbafngaaDoor
open Go.RowKit

/-- Where a slice's cells lie. -/
def Lies (A : Option Addr) (c n : Nat) : Prop := (A = none ∧ c = 0 ∧ n = 0) ∨ ∃ g, A = some ⟨g, 0, none⟩
theorem append_rows (base : Nat) (w : World) {v : Value} {l : List Bs} (hv : RowS w base v l) {A : Option Addr} {c : Nat} {m : List Bs} (hs : Strs w A m) (hA : Lies A c m.length) (hb : base ≤ w.heap.size) (hlen : l.length + m.length ≤ 1000000) (ty : TypeId) :
    ∃ v' w', (Builtin.append_ #[26, 26] ty #[v, .slice A m.length c]).run Tryd.prog w = .ok v' w' ∧ RowS w' base v' (l ++ m) ∧ w.grownBy w' v.ownBlock := by
  obtain ⟨i0, hi, hz0, hz1, hz2⟩ := info_parts (show (Tryd.prog.info? 9).map (fun i => (i.zero, i.size, i.bytes)) = some (some (.string ⟨#[]⟩), 1, 16) from by kernel_rfl)
  rcases hA with ⟨rfl, rfl, h⟩ | ⟨g, rfl⟩
  · have hm : m = [] := List.length_eq_zero_iff.1 h
    subst hm
    refine ⟨v, w, run_append_owned_none w base 26 ty 9 i0 1 Tryd.underlying26 hi v l.length (cellsS l) hv, ?_, ⟨rfl, rfl, rfl, Nat.le_refl _, fun _ _ _ => rfl⟩⟩
    rw [List.append_nil]; exact hv
  · obtain ⟨v', w', hr, ho, hg, _, _⟩ := run_append_own_at w base 26 ty 9 i0 (.string ⟨#[]⟩) 1 16 Tryd.underlying26 hi hz0 hz1 hz2 rfl (by decide) v l.length (cellsS l) hv ⟨g, 0, none⟩ m.length c (cellsS m) (by rw [cellsS_length]; omega) (by
      intro j u hu
      have hj : j < m.length := by
        have := (List.getElem?_eq_some_iff.1 hu).1
        rwa [cellsS_length] at this
      rcases hs with h | ⟨b, o, he, hs⟩
      · subst h; simp at hj
      · have he2 := Option.some.inj he
        injection he2 with h1 h2 h3
        subst h1 h2
        have hc := hs j hj
        have e : Addr.add ⟨g, 0, none⟩ j = ⟨g, 0 + j, none⟩ := by unfold Addr.add; split <;> simp_all
        rw [e, hc]
        unfold cellsS at hu
        rw [List.getElem?_map, List.getElem?_eq_getElem hj] at hu
        rw [List.getD_eq_getElem?_getD, List.getElem?_eq_getElem hj]
        exact hu) (by
      intro u hu
      obtain ⟨y, _, rfl⟩ := List.mem_map.1 hu
      rfl) (by unfold maxLen; omega) (by omega) hb
    refine ⟨v', w', hr, ?_, hg⟩
    unfold RowS
    rw [List.length_append, show cellsS (l ++ m) = cellsS l ++ cellsS m from by unfold cellsS; rw [List.map_append]]
    exact ho
theorem wp_append_run {P : Program} {o : Oper} {a : Act} {w : World} {K : Act → World → Prop} {Q : Exit → Act → World → Prop} (s x : Operand) (t : TypeId)
    (ho : o.op = .call { callee := .builtin .append, args := #[s, x], argTypes := #[t, t] }) (v u : Value) (hs : a.eval s = v) (hx : a.eval x = u) {v' : Value} {w' : World}
    (hr : (Builtin.append_ #[t, t] o.type #[v, u]).run P w = .ok v' w') (h : K (a.put o.dst v') w') : o.wp P a w K Q := by
  unfold Oper.wp execOp
  simp only [ho, resolve, invoke, builtin, Sem.run_bind, Sem.run_pure, Result.andThen_ok, List.map_toArray, List.map_cons, List.map_nil, hs, hx, hr]
  exact h
theorem wpList_append_run {P : Program} {ops : Array Oper} {rest : List Oper} {o : Oper} {a : Act} {w : World} {Q : Exit → Act → World → Prop} (hgd : o.guard = none) (s x : Operand) (t : TypeId)
    (ho : o.op = .call { callee := .builtin .append, args := #[s, x], argTypes := #[t, t] }) (v u : Value) (hs : a.eval s = v) (hx : a.eval x = u) {v' : Value} {w' : World}
    (hr : (Builtin.append_ #[t, t] o.type #[v, u]).run P w = .ok v' w') (h : wpList P ops Q rest (a.put o.dst v') w') : wpList P ops Q (o :: rest) a w :=
  wpList_plain hgd fun _ hK => wp_append_run s x t ho v u hs hx hr (hK _ _ h)
theorem step_append_run {P : Program} {ops : Array Oper} {o : Oper} {a : Act} {w : World} {K : Act → World → Prop} {Q : Exit → Act → World → Prop} {E : Prop} (hgd : o.guard = none) (s x : Operand) (t : TypeId)
    (ho : o.op = .call { callee := .builtin .append, args := #[s, x], argTypes := #[t, t] }) (v u : Value) (hs : a.eval s = v) (hx : a.eval x = u) {v' : Value} {w' : World}
    (hr : (Builtin.append_ #[t, t] o.type #[v, u]).run P w = .ok v' w') (h : K (a.put o.dst v') w') :
    if Region.wanted o (yielded ops a.tmps) = true then Oper.wp P o a w K Q else E := by
  have hw : Region.wanted o (yielded ops a.tmps) = true := by simp [Region.wanted, hgd]
  rw [if_pos hw]
  exact wp_append_run s x t ho v u hs hx hr h
theorem RowS.empty (w : World) (base : Nat) (hb : base ≤ w.heap.size) : RowS (w.alloc (.cells #[] 9)) base (.slice (some ⟨w.heap.size, 0, none⟩) 0 0) [] :=
  World.ownsRow_lit w #[] 0 hb (by unfold maxLen; omega) rfl
theorem RowS.oneB (w : World) (base : Nat) (hb : base ≤ w.heap.size) (s : ByteArray) : RowS (w.alloc (.cells #[.string s] 9)) base (.slice (some ⟨w.heap.size, 0, none⟩) 1 1) [s.data.toList] := by
  have := RowS.one w base hb s.data.toList
  rw [mk_eta] at this
  exact this
theorem RowS.alloc {w : World} {base : Nat} {v : Value} {l : List Bs} (h : RowS w base v l) (o : Obj) : RowS (w.alloc o) base v l := World.ownsRow.alloc h o
theorem RowS.lt {w : World} {base : Nat} {v : Value} {l : List Bs} (h : RowS w base v l) : ∀ k, v.ownBlock = some k → base ≤ k := fun k e => (World.ownsRow.lt h k e).1
theorem Strs.oneB (w : World) (s : ByteArray) : Strs (w.alloc (.cells #[.string s] 9)) (some ⟨w.heap.size, 0, none⟩) [s.data.toList] := Or.inr ⟨_, 0, rfl, fun i hi => by
  have h0 : i = 0 := by simpa using hi
  subst h0
  rw [cell_of_row _ _ _ _ _ _ (heap_alloc_new w _)]
  simp⟩
theorem RowS.lies {w : World} {base : Nat} {v : Value} {l : List Bs} (h : RowS w base v l) : ∃ A cap, v = .slice A l.length cap ∧ l.length ≤ cap ∧ HS w A l ∧ Lies A cap l.length := h.addr
end Go.Proofs.YtinioifhbafngaaDoor
