/- Rows of integers of one's own: one more, sorted, compacted. The library's contracts of slices.Sort and slices.Compact at []int, laid at this translation. | The contract of the reference's Hashed: a row of its own with the strings whose digests make the root. | The contract of the reference's Collided: it says true where two different strings of the two lists have the same digest. Conditions: at most 100,000 entries, none longer than 400,000 bytes. -/
import Derived.Shelf.SortM.Plain
import Derived.Shelf.SortM.SortNone
import Derived.Shelf.SlicesG.CompactI
import Derived.Sort.OwnSortedInts
import Derived.Test.YtngkfopdlkddnaaK16
import Derived.Test.YtngkfopdlkddnaaK04
import Derived.Maps.AppendAt
import Derived.Test.YtngkfopdlkddnaaK21
namespace Go.Proofs.Ytngkfopdlkddnaa
open Go Go.RowKit Go.Sort Go.Shelf
def laysSortI_ren : Go.Shelf.Ren := ⟨fun | 5 => 43 | 8 => 64 | 7 => 63 | 19 => 82 | 20 => 83 | 10 => 73 | 11 => 74 | 12 => 75 | 13 => 76 | 14 => 77 | 15 => 78 | 16 => 79 | 17 => 80 | 18 => 81 | 30 => 89 | 31 => 90 | 32 => 91 | 33 => 92 | 34 => 93 | 35 => 87 | 40 => 102 | n => n, fun | 23 => 24 | 25 => 3 | 3 => 3 | 32 => 109 | 22 => 24 | 0 => 0 | 44 => 128 | 46 => 130 | 4 => 4 | 36 => 121 | 35 => 120 | 41 => 50 | 5 => 5 | 9 => 9 | 53 => 134 | 57 => 96 | 63 => 145 | 64 => 75 | n => n, fun | n => n⟩
theorem laysSortI : Go.Proofs.SlLaysM.n5 Try.prog laysSortI_ren := {
  mixed := by kernel_rfl
  f5 := ⟨Try.f43.name, by decide, Try.func43.trans (congrArg some (by kernel_rfl))⟩
  f7 := ⟨Try.f63.name, by decide, Try.func63.trans (congrArg some (by kernel_rfl))⟩
  f8 := Try.func64.trans (congrArg some (by kernel_rfl))
  f10 := ⟨Try.f73.name, by decide, Try.func73.trans (congrArg some (by kernel_rfl))⟩
  f11 := ⟨Try.f74.name, by decide, Try.func74.trans (congrArg some (by kernel_rfl))⟩
  f12 := ⟨Try.f75.name, by decide, Try.func75.trans (congrArg some (by kernel_rfl))⟩
  f13 := ⟨Try.f76.name, by decide, Try.func76.trans (congrArg some (by kernel_rfl))⟩
  f14 := ⟨Try.f77.name, by decide, Try.func77.trans (congrArg some (by kernel_rfl))⟩
  f15 := ⟨Try.f78.name, by decide, Try.func78.trans (congrArg some (by kernel_rfl))⟩
  f16 := ⟨Try.f79.name, by decide, Try.func79.trans (congrArg some (by kernel_rfl))⟩
  f17 := ⟨Try.f80.name, by decide, Try.func80.trans (congrArg some (by kernel_rfl))⟩
  f18 := ⟨Try.f81.name, by decide, Try.func81.trans (congrArg some (by kernel_rfl))⟩
  f19 := Try.func82.trans (congrArg some (by kernel_rfl))
  f20 := Try.func83.trans (congrArg some (by kernel_rfl))
  f30 := ⟨Try.f89.name, by decide, Try.func89.trans (congrArg some (by kernel_rfl))⟩
  f31 := Try.func90.trans (congrArg some (by kernel_rfl))
  f32 := Try.func91.trans (congrArg some (by kernel_rfl))
  f33 := ⟨Try.f92.name, by decide, Try.func92.trans (congrArg some (by kernel_rfl))⟩
  f34 := ⟨Try.f93.name, by decide, Try.func93.trans (congrArg some (by kernel_rfl))⟩
  f35 := ⟨Try.f87.name, by decide, Try.func87.trans (congrArg some (by kernel_rfl))⟩
  f40 := ⟨Try.f102.name, by decide, Try.func102.trans (congrArg some (by kernel_rfl))⟩
  t0 := Try.underlying0
  a0 := Try.isAgg0
  z0 := Try.sizeOf0
  v0 := Try.zeroValue0
  t3 := Try.underlying3
  a3 := Try.isAgg3
  z3 := Try.sizeOf3
  v3 := Try.zeroValue3
  t4 := Try.underlying4
  a4 := Try.isAgg4
  z4 := Try.sizeOf4
  v4 := Try.zeroValue4
  t5 := Try.underlying5
  a5 := Try.isAgg5
  z5 := Try.sizeOf5
  v5 := Try.zeroValue5
  t9 := Try.underlying9
  a9 := Try.isAgg9
  z9 := Try.sizeOf9
  v9 := Try.zeroValue9
  t22 := Try.underlying24
  a22 := Try.isAgg24
  z22 := Try.sizeOf24
  v22 := Try.zeroValue24
  t23 := Try.underlying24
  a23 := Try.isAgg24
  z23 := Try.sizeOf24
  v23 := Try.zeroValue24
  t25 := Try.underlying3
  a25 := Try.isAgg3
  z25 := Try.sizeOf3
  v25 := Try.zeroValue3
  t32 := Try.underlying109
  a32 := Try.isAgg109
  z32 := Try.sizeOf109
  v32 := Try.zeroValue109
  t35 := Try.underlying120
  a35 := Try.isAgg120
  z35 := Try.sizeOf120
  v35 := Try.zeroValue120
  t36 := Try.underlying121
  a36 := Try.isAgg121
  z36 := Try.sizeOf121
  v36 := Try.zeroValue121
  t41 := Try.underlying50
  a41 := Try.isAgg50
  z41 := Try.sizeOf50
  v41 := Try.zeroValue50
  t44 := Try.underlying128
  a44 := Try.isAgg128
  z44 := Try.sizeOf128
  v44 := Try.zeroValue128
  t46 := Try.underlying130
  a46 := Try.isAgg130
  z46 := Try.sizeOf130
  v46 := Try.zeroValue130
  t53 := Try.underlying134
  a53 := Try.isAgg134
  z53 := Try.sizeOf134
  v53 := Try.zeroValue134
  t57 := Try.underlying96
  a57 := Try.isAgg96
  z57 := Try.sizeOf96
  v57 := Try.zeroValue96
  t63 := Try.underlying145
  a63 := Try.isAgg145
  z63 := Try.sizeOf145
  v63 := Try.zeroValue145
  t64 := Try.underlying75
  a64 := Try.isAgg75
  z64 := Try.sizeOf75
  v64 := Try.zeroValue75
}
def laysCmpI_ren : Go.Shelf.Ren := ⟨fun | 43 => 44 | n => n, fun | 22 => 24 | 23 => 3 | 3 => 3 | 4 => 4 | 0 => 0 | n => n, fun | n => n⟩
theorem laysCmpI : Go.Proofs.SlLaysN.n43 Try.prog laysCmpI_ren := {
  mixed := by kernel_rfl
  f43 := ⟨Try.f44.name, by decide, Try.func44.trans (congrArg some (by kernel_rfl))⟩
  t0 := Try.underlying0
  a0 := Try.isAgg0
  z0 := Try.sizeOf0
  v0 := Try.zeroValue0
  t3 := Try.underlying3
  a3 := Try.isAgg3
  z3 := Try.sizeOf3
  v3 := Try.zeroValue3
  t4 := Try.underlying4
  a4 := Try.isAgg4
  z4 := Try.sizeOf4
  v4 := Try.zeroValue4
  t22 := Try.underlying24
  a22 := Try.isAgg24
  z22 := Try.sizeOf24
  v22 := Try.zeroValue24
  t23 := Try.underlying3
  a23 := Try.isAgg3
  z23 := Try.sizeOf3
  v23 := Try.zeroValue3
  i23 := by kernel_rfl
}
theorem infoI : (Try.prog.info? 3).map (fun i => (i.zero, i.size, i.bytes)) = some (some (.int .i64 0), 1, 8) := by kernel_rfl
def RowI (w : World) (base : Nat) (v : Value) (l : List Int) : Prop := w.ownsRow base 3 1 v l.length (l.map (Value.int .i64))
theorem RowI.nil (w : World) (base : Nat) : RowI w base (.slice none 0 0) [] := World.ownsRow_nil _ _ _ _
theorem RowI.below {w w' : World} {base : Nat} {v : Value} {l : List Int} (h : RowI w base v l) (hb : Below w.heap.size w w') : RowI w' base v l := by
  refine ⟨h.1, ?_⟩
  rcases h.2 with h0 | ⟨g, cap, cur, hv, hbg, hg, r⟩
  · exact .inl h0
  · exact .inr ⟨g, cap, cur, hv, hbg, (hb.block g (Array.getElem?_eq_some_iff.1 hg).1).trans hg, r⟩
theorem RowI.lt {w : World} {base : Nat} {v : Value} {l : List Int} (h : RowI w base v l) : ∀ k, v.ownBlock = some k → base ≤ k := fun k e => (World.ownsRow.lt h k e).1
theorem RowI.slice {w : World} {base : Nat} {v : Value} {l : List Int} (h : RowI w base v l) : ∃ A cap, v = .slice A l.length cap ∧ l.length ≤ cap ∧ ∀ i, i < l.length → ∃ g, A = some ⟨g, 0, none⟩ ∧ w.cell? ⟨g, i, none⟩ = some (.int .i64 (l.getD i 0)) := by
  rcases h.2 with ⟨rfl, h0⟩ | ⟨g, cap, cur, rfl, _, hg, hcap, _, _, htake⟩
  · exact ⟨none, 0, by rw [h0], by omega, fun i hi => by omega⟩
  · refine ⟨some ⟨g, 0, none⟩, cap, rfl, hcap, fun i hi => ⟨g, rfl, ?_⟩⟩
    rw [cell_of_row _ _ _ _ _ _ hg, ← Array.getElem?_toList]
    have h1 : (cur.toList.take (l.length * 1))[i]? = (l.map (Value.int .i64))[i]? := by rw [htake]
    rw [List.getElem?_take_of_lt (by omega)] at h1
    rw [h1, List.getElem?_map, List.getElem?_eq_getElem hi, List.getD_eq_getElem?_getD, List.getElem?_eq_getElem hi]
    rfl
theorem appendI (base : Nat) (w : World) {v : Value} {l : List Int} (hv : RowI w base v l) (x : Int) (g : Nat) (hg : w.heap[g]? = some (.cells #[.int .i64 x] 3 (0, 0))) (hb : base ≤ w.heap.size) (hlen : l.length ≤ 1000000) (ty : TypeId) :
    ∃ v' w', (Builtin.append_ #[24, 24] ty #[v, .slice (some ⟨g, 0, none⟩) 1 1]).run Try.prog w = .ok v' w' ∧ RowI w' base v' (l ++ [x]) ∧ w.grownBy w' v.ownBlock := by
  obtain ⟨i0, hi, hz0, hz1, hz2⟩ := info_parts infoI
  obtain ⟨v', w', hr, ho, hgr, _, _⟩ := run_append_own_at w base 24 ty 3 i0 _ 1 8 Try.underlying24 hi hz0 hz1 hz2 rfl (by decide) v l.length (l.map (Value.int .i64)) hv ⟨g, 0, none⟩ 1 1 [.int .i64 x] rfl (World.news_of_block hg)
    (fun u hu => by rw [List.mem_singleton.1 hu]; rfl) (by unfold maxLen; omega) (by omega) hb
  refine ⟨v', w', hr, ?_, hgr⟩
  unfold RowI
  rw [List.length_append, List.map_append]
  exact ho
theorem sortI_calls (base : Nat) (v : Value) (l : List Int) (w : World) (h : RowI w base v l) (hl : l.length ≤ 1000000) (hb : base ≤ w.heap.size) :
    Calls Try.prog 43 #[v] w fun e w' => e = .returned (.tuple #[]) ∧ RowI w' base v (l.mergeSort fun x y => decide (x ≤ y)) ∧ Below base w w' := by
  rcases h.2 with ⟨rfl, h0⟩ | ⟨g, cap, cur, rfl, hbg, hg, hcap, hmx, hsz, htake⟩
  · obtain rfl : l = [] := List.length_eq_zero_iff.1 h0
    refine (AnyM.slices_Sort_int_none laysSortI none 0 w).mono ?_
    rintro e w' ⟨he, rfl⟩
    exact ⟨he, by rw [List.mergeSort_nil]; exact RowI.nil _ _, Below.refl _ _⟩
  · refine (AnyM.slices_Sort_int laysSortI g 0 cap l w (holds_of_blockI hg (by rw [Nat.mul_one] at htake; exact htake)) (Array.getElem?_eq_some_iff.1 hg).1 (by omega)).mono ?_
    rintro e w' ⟨he, n, os, rfl⟩
    refine ⟨he, ?_, (Below.refl _ w).grown (grownBy_sortedI _) hb (fun j e => by cases e; exact hbg)⟩
    have h1 := ownsRow_sortedI (n := n) (os := os) (ts := l.mergeSort fun x y => decide (x ≤ y)) (List.length_mergeSort l) hbg hg hcap hmx hsz
    unfold RowI
    rw [List.length_mergeSort]
    exact h1
theorem compact_le (l : List Int) : (Lib.compact l).length ≤ l.length := by
  unfold Lib.compact Lib.compactUpTo
  refine Nat.le_trans (by first | exact List.length_filterMap_le _ _ | exact List.length_filter_le _ _ | (rw [List.length_map]; exact List.length_filter_le _ _)) (by simp)
theorem compactI_calls (base : Nat) (v : Value) (l : List Int) (w : World) (h : RowI w base v l) (hl : l.length ≤ 1000000) (hb : base ≤ w.heap.size) :
    Calls Try.prog 44 #[v] w fun e w' => ∃ v', e = .returned v' ∧ RowI w' base v' (Lib.compact l) ∧ Below base w w' := by
  rcases h.2 with ⟨rfl, h0⟩ | ⟨g, cap, cur, rfl, hbg, hg, hcap, hmx, hsz, htake⟩
  · obtain rfl : l = [] := List.length_eq_zero_iff.1 h0
    refine (AnyG.slices_Compact_int_empty laysCmpI none 0 w).mono ?_
    rintro e w' ⟨he, rfl⟩
    exact ⟨_, he, RowI.nil _ _, Below.refl _ _⟩
  · refine (AnyG.slices_Compact_int laysCmpI g 0 cap l w (holds_of_blockI hg (by rw [Nat.mul_one] at htake; exact htake)) (by omega) hcap).mono ?_
    rintro e w' ⟨he, q, rfl⟩
    have hle := compact_le l
    have e1 : putRow (Value.int .i64) (Sort.ahead w q) g 0 (Lib.compact l ++ List.replicate (l.length - (Lib.compact l).length) 0).toArray = grow (putRow (Value.int .i64) (Sort.ahead w q) g 0 (Lib.compact l ++ List.replicate (l.length - (Lib.compact l).length) 0).toArray) #[] := (grow_empty _).symm
    rw [e1]
    refine ⟨_, he, ?_, (Below.refl _ w).grown (grownBy_sortedI _) hb (fun j e => by cases e; exact hbg)⟩
    have hz : (Lib.compact l ++ List.replicate (l.length - (Lib.compact l).length) 0).length = l.length := by simp; omega
    have h1 := take_putCellsI cur (Lib.compact l ++ List.replicate (l.length - (Lib.compact l).length) 0) (by rw [hz]; omega)
    refine ⟨by simp, .inr ⟨g, cap, _, rfl, hbg, heap_sortedI _ hg, by omega, hmx, by simp [putCells, hsz], ?_⟩⟩
    have h2 := congrArg (List.take (Lib.compact l).length) h1
    rw [List.take_take, hz, Nat.min_eq_left hle, List.map_append, List.take_left' (by simp)] at h2
    rw [Nat.mul_one]
    exact h2
end Go.Proofs.Ytngkfopdlkddnaa
namespace Go.Proofs.Ytngkfopdlkddnaa
open Go Go.RowKit
section
variable {P : Program} {ops : Array Oper} {C : World → Prop} {Q : Exit → Act → World → Prop}
/-- A drawn region taken in the order that exchanges of neighbours make. -/
theorem wp_region_mixL {id : Nat} {a : Act} {w : World} {l : List Oper} (ss : List Nat) (C D : World → Prop) (bs : List Bool) (ks : List Nat) (hm : P.follows .mixedOrders = true) (hB : (Region.noSelect l.toArray && (decide (bs.length = (ss.foldl (fun l n => swapAt n l) l).length) && (decide ((ss.foldl (fun l n => swapAt n l) l).length = l.length) && mixPB .any l.toArray bs ks (Array.replicate l.toArray.size false)))) = true)
    (hl : (ks.map fun k => l.toArray[k]?) = (ss.foldl (fun l n => swapAt n l) l).map some)
    (hC : C { w with drawn := w.drawn + 1 }) (hD : D { w with drawn := w.drawn + 1 }) (h : ∀ w', C w' → D w' → wpMix P l.toArray (NoPanic Q) C bs (ss.foldl (fun l n => swapAt n l) l) a w') : (Code.region id l.toArray true).wp P Q a w :=
  wp_region_mixP C (ss.foldl (fun l n => swapAt n l) l) bs ks hm hB hl hC (h _ hC hD)
theorem mix_stand_callR {o : Oper} {l : List Oper} {bs : List Bool} {a : Act} {w : World} (R : Value → World → Prop) (f : FuncId) (args : Array Value) (hw : Region.wanted o (yielded ops a.tmps) = true) (ho : (execOp a.eval o).run P w = .ok (.enter f args) w)
    (hc : Calls P f args w fun e w2 => ∃ v, e = .returned v ∧ R v w2 ∧ C w2) (k : ∀ v w', R v w' → C w' → wpMix P ops (NoPanic Q) C bs l (a.put o.dst v) w') : wpMix P ops (NoPanic Q) C (false :: bs) (o :: l) a w := by
  refine ⟨hw, ?_⟩
  simp only [Oper.wp, ho, Oper.upon]
  refine Calls.mono hc fun e w2 he => ?_
  obtain ⟨v, rfl, h1, h2⟩ := he
  exact ⟨h2, k v w2 h1 h2⟩
theorem mix_append {o : Oper} {l : List Oper} {bs : List Bool} {a : Act} {w : World} (s x : Operand) (t : TypeId) (ho : o.op = .call { callee := .builtin .append, args := #[s, x], argTypes := #[t, t] }) (v u : Value) (hs : a.eval s = v) (hx : a.eval x = u) {v' : Value} {w' : World}
    (hr : (Builtin.append_ #[t, t] o.type #[v, u]).run P w = .ok v' w') (hw : Region.wanted o (yielded ops a.tmps) = true) (hc : C w') (k : wpMix P ops Q C bs l (a.put o.dst v') w') : wpMix P ops Q C (false :: bs) (o :: l) a w :=
  ⟨hw, wp_append_run s x t ho v u hs hx hr ⟨hc, k⟩⟩
end
theorem RowS.weak6 {w : World} {b c : Nat} {v : Value} {l : List Bs} (h : RowS w c v l) (hb : b ≤ c) : RowS w b v l :=
  ⟨h.1, h.2.elim .inl (fun ⟨g, cap, cur, h1, h2, h3⟩ => .inr ⟨g, cap, cur, h1, Nat.le_trans hb h2, h3⟩)⟩
/-- No string among the first j of a list collides with x. -/
def CoP (x : Bs) (b : List Bs) (j : Nat) : Prop := ∀ i, i < j → ¬ (x ≠ b.getD i [] ∧ shaF x = shaF (b.getD i []))
theorem CoP.succ {x : Bs} {b : List Bs} {j : Nat} (h : CoP x b j) (h2 : ¬ (x ≠ b.getD j [] ∧ shaF x = shaF (b.getD j []))) : CoP x b (j + 1) := fun i hi => by
  rcases Nat.lt_or_ge i j with h3 | h3
  · exact h i h3
  · obtain rfl : i = j := by omega
    exact h2
theorem all_succ {P : Nat → Prop} {k : Nat} (hp : ∀ j, j < k → P j) (h2 : P k) : ∀ j, j < k + 1 → P j := fun j hj => by
  rcases Nat.lt_or_ge j k with h3 | h3
  · exact hp j h3
  · obtain rfl : j = k := by omega
    exact h2
theorem coP_none {a b : List Bs} (h : ∀ i, i < a.length → CoP (a.getD i []) b b.length) : ¬ ∃ x ∈ a, ∃ y ∈ b, x ≠ y ∧ shaF x = shaF y := by
  rintro ⟨x, hx, y, hy, h2⟩
  obtain ⟨i, hi, rfl⟩ := List.mem_iff_getElem.1 hx
  obtain ⟨j, hj, rfl⟩ := List.mem_iff_getElem.1 hy
  refine h i hi j hj ?_
  rw [List.getD_eq_getElem?_getD, List.getElem?_eq_getElem hi, List.getD_eq_getElem?_getD, List.getElem?_eq_getElem hj]
  exact h2
end Go.Proofs.Ytngkfopdlkddnaa
