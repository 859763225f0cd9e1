/- Appending a slice of strings that came in to a row of one's own; how such a slice reads; FactsetNil's plain side. -/
import Derived.Test.YtnndnjnpkjpkpaaGreatDoorLaidi
import Derived.Maps.AppendAt
import Derived.SizedLaws
namespace Go.Proofs.YtnndnjnpkjpkpaaGreatDoor
open Go.ChangeShapes Go.WideShapes Go.ChangeAt Go.WideMaps Go.WideElems Go.RowKit
/-- As append_rows, for a slice that lies anywhere. -/
theorem append_strs (base : Nat) (w : World) {v : Value} {l : List Bs} (hv : RowS w base v l) {A : Option Addr} {c : Nat} {m : List Bs} (hs : Strs w A m) (hA : A = none → c = 0 ∧ m = []) (hb : base ≤ w.heap.size) (hlen : l.length + m.length ≤ 1000000) (ty : TypeId) :
    ∃ v' w', (Builtin.append_ #[24, 24] ty #[v, .slice A m.length c]).run Tryz.prog w = .ok v' w' ∧ RowS w' base v' (l ++ m) ∧ w.grownBy w' v.ownBlock := by
  obtain ⟨i0, hi, hz0, hz1, hz2⟩ := info_parts (show (Tryz.prog.info? 9).map (fun i => (i.zero, i.size, i.bytes)) = some (some (.string ⟨#[]⟩), 1, 16) from by kernel_rfl)
  cases A with
  | none =>
    obtain ⟨rfl, rfl⟩ := hA rfl
    refine ⟨v, w, run_append_owned_none w base 24 ty 9 i0 1 Tryz.underlying24 hi v l.length (cellsS l) hv, ?_, ⟨rfl, rfl, rfl, Nat.le_refl _, fun _ _ _ => rfl⟩⟩
    rw [List.append_nil]; exact hv
  | some x =>
    obtain ⟨v', w', hr, ho, hg, _, _⟩ := run_append_own_at w base 24 ty 9 i0 (.string ⟨#[]⟩) 1 16 Tryz.underlying24 hi hz0 hz1 hz2 rfl (by decide) v l.length (cellsS l) hv x m.length c (cellsS m) (by rw [cellsS_length]; omega) (by
      intro j u hu
      have hj : j < m.length := by
        have := (List.getElem?_eq_some_iff.1 hu).1
        rwa [cellsS_length] at this
      rcases hs with h | ⟨b, o, he, hs⟩
      · subst h; simp at hj
      · have he2 := Option.some.inj he
        subst he2
        have hc := hs j hj
        have e : Addr.add ⟨b, o, none⟩ j = ⟨b, o + j, none⟩ := by unfold Addr.add; split <;> simp_all
        rw [e, hc]
        unfold cellsS at hu
        rw [List.getElem?_map, List.getElem?_eq_getElem hj] at hu
        rw [List.getD_eq_getElem?_getD, List.getElem?_eq_getElem hj]
        exact hu) (by
      intro u hu
      obtain ⟨y, _, rfl⟩ := List.mem_map.1 hu
      rfl) (by unfold maxLen; omega) (by omega) hb
    refine ⟨v', w', hr, ?_, hg⟩
    unfold RowS
    rw [List.length_append, show cellsS (l ++ m) = cellsS l ++ cellsS m from by unfold cellsS; rw [List.map_append]]
    exact ho
theorem strs_none {W : World} {A : Option Addr} {l : List Bs} (h : Strs W A l) (hA : A = none) : l = [] := by
  rcases h with h | ⟨b, o, e, _⟩
  · exact h
  · rw [hA] at e; cases e
set_option maxRecDepth 100000 in
/-- A slice that is nil has no room. -/
theorem strs_nil_cap {H : Type} {enc : TypeId × Value → H} {W : World} {n c : Nat} {d : DataW H} {p : List MemPlace}
    (h : DataW.Trod enc Tryz.prog W 0 (fun _ => true) true 24 (.slice none n c) d p) : c = 0 := by
  obtain ⟨fuel, hf⟩ := h
  rcases open_strings Tryz.underlying24 Tryz.underlying9 cStr hf with ⟨hcs, _⟩ | ⟨x, l, c, zs, hcs, _⟩
  · simp [Value.cells] at hcs
    exact hcs.2
  · simp [Value.cells] at hcs
theorem weightsAll_mem6 {H : Type} {P : Program} {e : TypeId} : ∀ {l : List (DataW H)} {d : DataW H}, d ∈ l → ∀ n ∈ d.weights P e, n ∈ DataW.weightsAll P e l
  | d' :: r, d, hd, n, hn => by
    unfold DataW.weightsAll
    rw [List.mem_append]
    rcases List.mem_cons.1 hd with rfl | h
    · exact .inl hn
    · exact .inr (weightsAll_mem6 h n hn)
/-- The reach of a string in a slice. -/
theorem strs_reach {H : Type} {P : Program} {ts : List TypeId} {ds : List (DataW H)} (hZ : (DataW.weightsEach P ts ds).all (· ≤ reachBytes) = true) {j : Nat} {t e : TypeId} {elems spare : List (DataW H)}
    (ht : ts[j]? = some t) (hd : ds[j]? = some (.slice elems spare)) (hu : P.underlying t = some (.slice e)) {b : List UInt8} (hx : DataW.lit (.string b) ∈ elems) : b.length ≤ reachBytes := by
  refine of_decide_eq_true (List.all_eq_true.1 hZ _ (DataW.weights_mem_each ht hd _ ?_))
  simp only [DataW.weights, hu, List.mem_cons, List.mem_append]
  exact .inr (.inl (weightsAll_mem6 hx _ (by simp [DataW.weights])))
set_option maxRecDepth 100000 in
/-- How a slice of strings that came in reads, with what it is as a datum. -/
theorem strs_view_r {H : Type} {enc : TypeId × Value → H} {W : World} {base : Nat} {v : Value} {d : DataW H} {p : List MemPlace}
    (hv : Value.okWide Tryz.prog W .any base 24 v) (h : DataW.Trod enc Tryz.prog W 0 (fun _ => true) true 24 v d p) :
    ∃ (a : Option Addr) (l : List Bs) (cap : Nat), v = .slice a l.length cap ∧ l.length ≤ cap ∧ l.length ≤ 9223372036854775807 ∧ Strs W a l ∧ (a = none → cap = 0) ∧ ∀ x ∈ l, ∃ elems spare, d = .slice elems spare ∧ DataW.lit (.string x) ∈ elems := by
  obtain ⟨a, len, cap, rfl⟩ := okWide_slice Tryz.underlying24 hv
  obtain ⟨fuel, hf⟩ := h
  rcases open_strings Tryz.underlying24 Tryz.underlying9 cStr hf with ⟨hcs, _⟩ | ⟨x, l, c, zs, hcs, _, hl, hm, hz, hd, hcell, _⟩
  · simp [Value.cells] at hcs
    obtain ⟨rfl, rfl, rfl⟩ := hcs
    exact ⟨none, [], 0, rfl, Nat.le_refl _, by simp, .inl rfl, fun _ => rfl, fun x hx => by simp at hx⟩
  · simp [Value.cells] at hcs
    obtain ⟨rfl, rfl, rfl⟩ := hcs
    unfold maxLen at hm
    have hzl : zs.length = cap := by simpa using hz
    by_cases h0 : len = 0
    · subst h0
      exact ⟨some x, [], cap, rfl, Nat.zero_le _, by simp, .inl rfl, fun e => by (cases e), fun x hx => by simp at hx⟩
    · obtain ⟨b, o, sp⟩ := x
      obtain rfl := spot_none (hcell 0 (by omega))
      have hL : ((zs.take len).map fun t => t.data.toList).length = len := by rw [List.length_map, List.length_take]; omega
      refine ⟨some ⟨b, o, none⟩, (zs.take len).map fun t => t.data.toList, cap, by rw [hL], by omega, by omega, .inr ⟨b, o, rfl, fun i hi => ?_⟩, fun e => by (cases e), fun x hx => ?_⟩
      · rw [hL] at hi
        have hc := hcell i (by omega)
        rw [add_plain] at hc
        rw [hc]
        simp [List.getD_eq_getElem?_getD, List.getElem?_take_of_lt hi, List.getElem?_eq_getElem (show i < zs.length by omega)]
      · obtain ⟨t, ht, rfl⟩ := List.mem_map.1 hx
        refine ⟨_, _, congrArg Prod.fst hd, ?_⟩
        exact List.mem_map_of_mem (f := fun s : ByteArray => DataW.lit (.string s.data.toList)) ht
/-- What is missing, in its order. -/
theorem miss_asc (s : List Ent) (ks : List Bs) : (missK s ks).Pairwise (fun a b => Op.bytesLess a b = true) := by
  unfold missK
  rw [List.pairwise_map]
  exact missE_asc s ks
theorem miss_nil_mem (ks : List Bs) (k : Bs) : k ∈ missK [] ks ↔ k ∈ ks := by
  rw [mem_missK]
  exact ⟨fun h => h.1, fun h => ⟨h, rfl⟩⟩
end Go.Proofs.YtnndnjnpkjpkpaaGreatDoor
