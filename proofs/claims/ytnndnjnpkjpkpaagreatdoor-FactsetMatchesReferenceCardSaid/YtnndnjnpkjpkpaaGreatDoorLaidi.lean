/- What the rows' condition gives the walks: the table of constants reads as the program lays it. | How a slice of facts that came in reads. | How a slice of integers that came in reads. -/
import Derived.Test.YtnndnjnpkjpkpaaGreatDoorRows
import Derived.Test.YtnndnjnpkjpkpaaGreatDoorTie
import Derived.Test.YtnndnjnpkjpkpaaGreatDoorCards
import Derived.Test.YtnndnjnpkjpkpaaGreatDoorOf
import Derived.ProofKit
import Derived.LaidMore
import Derived.OpenShut
import Derived.ShutString
import Derived.ChangeOld
import Derived.Stop.Joined
import Derived.Lib.LaidTab
import Derived.SevenTiedAt
import Derived.Lib.SmallJoins
import Derived.Deep.Slices
namespace Go.Proofs.YtnndnjnpkjpkpaaGreatDoor
open Go.ChangeShapes Go.WideShapes Go.ChangeAt Go.WideMaps Go.WideElems Go.RowKit
open Go.Joins Go.Deep

theorem own : ownKnob Tryz.prog.godebug = none := by kernel_rfl
theorem laidOut : laidOutB Tryz.prog = true := by kernel_rfl
/-- What the rows list. -/
def laidL : List (String × DataW Unit) := Rows.factsetMatchesReferenceRow.laid
def constName : String := (laidL.map (·.1)).headD ""
theorem laidL_eq : laidL = [(constName, Lib.tabData .u32 (shaK.map fun n => ((n : Nat) : Int)))] := by kernel_rfl
theorem gConst : Tryz.prog.globalNamed constName = some 0 := by kernel_rfl
theorem tConst : (Tryz.prog.globals[0]?).map (·.type) = some 138 := by kernel_rfl
theorem cU32 : Tryz.prog.cellsOf 92 = 1 := by kernel_rfl
theorem cTab : Tryz.prog.cellsOf 138 = 64 := by kernel_rfl

theorem door_met (os : Os) (args : Array Value) : laidMetH Tryz.prog laidL ((World.doorLaid Tryz.prog 400 os).forCall (fun _ _ => 0) ⟨#[], args, []⟩).memory :=
  laidMetH_of_parts3 (fuel := 8) (laidMet_of_run' 8 (by kernel_rfl) (by kernel_rfl)) (by kernel_rfl) (by kernel_rfl)

theorem konst_of_laid {W : World} (h : laidMetH Tryz.prog laidL W) : Konst W := by
  rw [MakeChecks.laidMetH_plain _ _ _ (by kernel_rfl), laidL_eq] at h
  have hT := Lib.tabIs_of_head gConst tConst Tryz.underlying138 Tryz.underlying92 cU32 cTab h
  intro i hi
  have hi2 : i < 64 := hi
  have hc := hT.cell gConst i (by simpa using hi)
  rw [Nat.zero_add, hc]
  simp [List.getElem?_map, List.getD_eq_getElem?_getD, List.getElem?_eq_getElem hi]

theorem spot_none {w : World} {b o : Nat} {sp : Option Nat} {v : Value} (h : w.cell? (Addr.add ⟨b, o, sp⟩ 0) = some v) : sp = none := by
  simpa [Addr.add] using World.cell?_spot h

theorem add_plain (b o i : Nat) : Addr.add ⟨b, o, none⟩ i = ⟨b, o + i, none⟩ := by
  unfold Addr.add; split <;> simp_all

theorem cStr : Tryz.prog.cellsOf 9 = 1 := by kernel_rfl

set_option maxRecDepth 100000 in
/-- How a slice of strings that came in reads. -/
theorem strs_view {H : Type} {enc : TypeId × Value → H} {W : World} {base : Nat} {v : Value} {d : DataW H} {p : List MemPlace}
    (hv : Value.okWide Tryz.prog W .any base 24 v) (h : DataW.Trod enc Tryz.prog W 0 (fun _ => true) true 24 v d p) :
    ∃ (a : Option Addr) (l : List Bs) (cap : Nat), v = .slice a l.length cap ∧ l.length ≤ cap ∧ l.length ≤ 9223372036854775807 ∧ Strs W a l ∧ ∀ x ∈ l, x.length ≤ 9223372036854775807 := by
  obtain ⟨a, len, cap, rfl⟩ := okWide_slice Tryz.underlying24 hv
  obtain ⟨fuel, hf⟩ := h
  rcases open_strings Tryz.underlying24 Tryz.underlying9 cStr hf with ⟨hcs, _⟩ | ⟨x, l, c, zs, hcs, _, hl, hm, hz, _, hcell, hwz⟩
  · simp [Value.cells] at hcs
    obtain ⟨rfl, rfl, rfl⟩ := hcs
    exact ⟨none, [], 0, rfl, Nat.le_refl _, by simp, Or.inl rfl, fun x hx => by simp at hx⟩
  · simp [Value.cells] at hcs
    obtain ⟨rfl, rfl, rfl⟩ := hcs
    unfold maxLen at hm
    have hzl : zs.length = cap := by simpa using hz
    by_cases h0 : len = 0
    · subst h0
      exact ⟨some x, [], cap, rfl, Nat.zero_le _, by simp, Or.inl rfl, fun x hx => by simp at hx⟩
    · obtain ⟨b, o, sp⟩ := x
      obtain rfl := spot_none (hcell 0 (by omega))
      have hL : ((zs.take len).map fun t => t.data.toList).length = len := by rw [List.length_map, List.length_take]; omega
      refine ⟨some ⟨b, o, none⟩, (zs.take len).map fun t => t.data.toList, cap, by rw [hL], by omega, by omega, Or.inr ⟨b, o, rfl, fun i hi => ?_⟩, fun x hx => ?_⟩
      · rw [hL] at hi
        have hc := hcell i (by omega)
        rw [add_plain] at hc
        rw [hc]
        simp [List.getD_eq_getElem?_getD, List.getElem?_take_of_lt hi, List.getElem?_eq_getElem (show i < zs.length by omega)]
      · obtain ⟨t, ht, rfl⟩ := List.mem_map.1 hx
        have := hwz t (List.mem_of_mem_take ht)
        unfold maxLen at this
        simpa using this

/-! ### A fact that came in -/
theorem fieldsL : (Tryz.prog.fieldsOf 40).toList.map (fun f => (f.type, f.offset)) = ((List.range 17).map fun i => (3, i)) ++ [(9, 17)] := by kernel_rfl
theorem fieldsN : (Tryz.prog.fieldsOf 40).size = 18 := by kernel_rfl
theorem fieldAt (i : Nat) (h : i < 17) : ∃ f, (Tryz.prog.fieldsOf 40)[i]? = some f ∧ f.type = 3 ∧ f.offset = i := by
  have h1 := congrArg (fun l => l[i]?) fieldsL
  simp only [List.getElem?_map] at h1
  rw [List.getElem?_append_left (by simp; omega), List.getElem?_map, List.getElem?_range h] at h1
  obtain ⟨f, hf1, hf2⟩ := Option.map_eq_some_iff.1 h1
  exact ⟨f, by rw [← hf1, Array.getElem?_toList], congrArg Prod.fst hf2, congrArg Prod.snd hf2⟩
theorem fieldAt17 : ∃ f, (Tryz.prog.fieldsOf 40)[17]? = some f ∧ f.type = 9 ∧ f.offset = 17 := by
  have h1 := congrArg (fun l => l[17]?) fieldsL
  simp only [List.getElem?_map] at h1
  rw [List.getElem?_append_right (by simp)] at h1
  obtain ⟨f, hf1, hf2⟩ := Option.map_eq_some_iff.1 (h1.trans (by rfl : _ = some (9, 17)))
  exact ⟨f, by rw [← hf1, Array.getElem?_toList], congrArg Prod.fst hf2, congrArg Prod.snd hf2⟩
theorem cInt : Tryz.prog.cellsOf 3 = 1 := by kernel_rfl
theorem cFact : Tryz.prog.cellsOf 40 = 18 := by kernel_rfl
theorem one_of (l : List Value) (i : Nat) (h : i < l.length) : (l.drop i).take 1 = [l[i]] := by
  rw [List.drop_eq_getElem_cons h]; rfl
set_option maxRecDepth 100000 in
theorem open_fact {H : Type} {enc : TypeId × Value → H} {w : World} {base b0 : Nat} {spare : Nat → Bool} {held : Bool} {v : Value} {d : DataW H} {p : List MemPlace}
    (hv : Value.okWide Tryz.prog w .any b0 40 v) (h : DataW.Trod enc Tryz.prog w base spare held 40 v d p) :
    ∃ (u : Nat → Int) (t : ByteArray), v = .agg (factC u t) ∧ Ints u ∧ t.size ≤ 9223372036854775807 := by
  obtain ⟨cs, rfl, hsz⟩ := okWide_struct fieldsFact hv
  rw [cFact] at hsz
  obtain ⟨fuel, hf⟩ := h
  obtain ⟨xs, n, _, hx, hcl, hlen, hg⟩ := DataW.trod_struct fieldsFact hf
  have hl : cs.toList.length = 18 := by simpa using hsz
  have hxl : xs.length = 18 := hlen.trans fieldsN
  have hI : ∀ i, i < 17 → ∃ a : Int, cs.toList[i]? = some (.int .i64 a) ∧ -9223372036854775808 ≤ a ∧ a ≤ 9223372036854775807 := by
    intro i hi
    obtain ⟨f, hf1, hf2, hf3⟩ := fieldAt i hi
    have h1 := hg i f hf1
    rw [hf2, hf3, cInt] at h1
    rw [show (Value.agg cs).cells.toList = cs.toList from rfl, one_of _ i (by omega), List.getElem?_eq_getElem (by omega)] at h1
    obtain ⟨a, ha, _, hw⟩ := DataW.trod_int Tryz.underlying3 h1
    have hb := bounds_i64 hw
    refine ⟨a, ?_, hb.1, hb.2⟩
    rw [List.getElem?_eq_getElem (by omega)]
    exact congrArg some (List.cons.inj ha).1
  have hS : ∃ t : ByteArray, cs.toList[17]? = some (.string t) ∧ t.size ≤ 9223372036854775807 := by
    obtain ⟨f, hf1, hf2, hf3⟩ := fieldAt17
    have h1 := hg 17 f hf1
    rw [hf2, hf3, cStr] at h1
    rw [show (Value.agg cs).cells.toList = cs.toList from rfl, one_of _ 17 (by omega), List.getElem?_eq_getElem (by omega)] at h1
    obtain ⟨t, ha, _, hw⟩ := DataW.trod_string Tryz.underlying9 h1
    refine ⟨t, ?_, hw⟩
    rw [List.getElem?_eq_getElem (by omega)]
    exact congrArg some (List.cons.inj ha).1
  obtain ⟨t, ht, hts⟩ := hS
  let u : Nat → Int := fun i => match cs.toList[i]? with | some (.int _ a) => a | _ => 0
  have hu : ∀ i, i < 17 → cs.toList[i]? = some (.int .i64 (u i)) ∧ -9223372036854775808 ≤ u i ∧ u i ≤ 9223372036854775807 := fun i hi => by
    obtain ⟨a, h1, h2, h3⟩ := hI i hi
    have e : u i = a := by show (match cs.toList[i]? with | some (.int _ a) => a | _ => 0) = a; rw [h1]
    rw [e]
    exact ⟨h1, h2, h3⟩
  refine ⟨u, t, ?_, fun i hi => (hu i hi).2, hts⟩
  congr 1
  apply Array.ext'
  apply List.ext_getElem?
  intro i
  rcases Nat.lt_trichotomy i 17 with h1 | h1 | h1
  · rw [(hu i h1).1, Array.getElem?_toList, factC_get u t i h1]
  · subst h1; rw [ht]; rfl
  · rw [List.getElem?_eq_none (by omega), List.getElem?_eq_none (show (factC u t).toList.length ≤ i from h1)]
end Go.Proofs.YtnndnjnpkjpkpaaGreatDoor
namespace Go.Proofs.YtnndnjnpkjpkpaaGreatDoor
open Go.ChangeShapes Go.WideShapes Go.ChangeAt Go.WideMaps Go.WideElems Go.RowKit
open Go.Joins Go.Deep
set_option maxRecDepth 100000 in
theorem trod_fact {H : Type} {enc : TypeId × Value → H} {w : World} {base : Nat} {spare : Nat → Bool} {held : Bool} {fuel : Nat} {cs : List Value} {x : DataW H × List MemPlace}
    (hf : DataW.trod enc Tryz.prog w base spare held fuel 40 cs = some x) : ∃ (u : Nat → Int) (t : ByteArray), cs = (factC u t).toList ∧ Ints u ∧ t.size ≤ 9223372036854775807 := by
  obtain ⟨xs, n, _, hx, hcl, hlen, hg⟩ := DataW.trod_struct fieldsFact hf
  rw [cFact] at hcl
  have hl : cs.length = 18 := hcl
  have hxl : xs.length = 18 := hlen.trans fieldsN
  have hI : ∀ i, i < 17 → ∃ a : Int, cs[i]? = some (.int .i64 a) ∧ -9223372036854775808 ≤ a ∧ a ≤ 9223372036854775807 := by
    intro i hi
    obtain ⟨f, hf1, hf2, hf3⟩ := fieldAt i hi
    have h1 := hg i f hf1
    rw [hf2, hf3, cInt] at h1
    rw [one_of _ i (by omega), List.getElem?_eq_getElem (by omega)] at h1
    obtain ⟨a, ha, _, hw⟩ := DataW.trod_int Tryz.underlying3 h1
    have hb := bounds_i64 hw
    refine ⟨a, ?_, hb.1, hb.2⟩
    rw [List.getElem?_eq_getElem (by omega)]
    exact congrArg some (List.cons.inj ha).1
  have hS : ∃ t : ByteArray, cs[17]? = some (.string t) ∧ t.size ≤ 9223372036854775807 := by
    obtain ⟨f, hf1, hf2, hf3⟩ := fieldAt17
    have h1 := hg 17 f hf1
    rw [hf2, hf3, cStr] at h1
    rw [one_of _ 17 (by omega), List.getElem?_eq_getElem (by omega)] at h1
    obtain ⟨t, ha, _, hw⟩ := DataW.trod_string Tryz.underlying9 h1
    refine ⟨t, ?_, hw⟩
    rw [List.getElem?_eq_getElem (by omega)]
    exact congrArg some (List.cons.inj ha).1
  obtain ⟨t, ht, hts⟩ := hS
  let u : Nat → Int := fun i => match cs[i]? with | some (.int _ a) => a | _ => 0
  have hu : ∀ i, i < 17 → cs[i]? = some (.int .i64 (u i)) ∧ -9223372036854775808 ≤ u i ∧ u i ≤ 9223372036854775807 := fun i hi => by
    obtain ⟨a, h1, h2, h3⟩ := hI i hi
    have e : u i = a := by show (match cs[i]? with | some (.int _ a) => a | _ => 0) = a; rw [h1]
    rw [e]
    exact ⟨h1, h2, h3⟩
  refine ⟨u, t, ?_, fun i hi => (hu i hi).2, hts⟩
  apply List.ext_getElem?
  intro i
  rcases Nat.lt_trichotomy i 17 with h1 | h1 | h1
  · rw [(hu i h1).1, Array.getElem?_toList, factC_get u t i h1]
  · subst h1; rw [ht]; rfl
  · rw [List.getElem?_eq_none (by omega), List.getElem?_eq_none (show (factC u t).toList.length ≤ i from h1)]
/-- The bounds of a fact that came in. -/
def FaR (f : Fa) : Prop := Ints f.1 ∧ f.2.size ≤ 9223372036854775807
set_option maxRecDepth 100000 in
theorem facts_view {H : Type} {enc : TypeId × Value → H} {W : World} {base : Nat} {v : Value} {d : DataW H} {p : List MemPlace}
    (hv : Value.okWide Tryz.prog W .any base 22 v) (h : DataW.Trod enc Tryz.prog W 0 (fun _ => true) true 22 v d p) :
    ∃ (a : Option Addr) (l : List Fa) (cap : Nat), v = .slice a l.length cap ∧ l.length ≤ cap ∧ l.length ≤ 9223372036854775807 ∧ FactsS W a l ∧ ∀ x ∈ l, FaR x := by
  obtain ⟨a, len, cap, rfl⟩ := okWide_slice Tryz.underlying22 hv
  obtain ⟨fuel, hf⟩ := h
  rcases open_slice Tryz.underlying22 hf with ⟨hcs, _⟩ | ⟨x, l, c, m, n, D, Pl, hcs, _, hl, hm, hmm, _, hel⟩
  · simp [Value.cells] at hcs
    obtain ⟨rfl, rfl, rfl⟩ := hcs
    exact ⟨none, [], 0, rfl, Nat.le_refl _, by simp, .inl rfl, fun x hx => by simp at hx⟩
  · simp [Value.cells] at hcs
    obtain ⟨rfl, rfl, rfl⟩ := hcs
    unfold maxLen at hm
    simp at hmm
    subst hmm
    by_cases h0 : len = 0
    · subst h0
      exact ⟨some x, [], m, rfl, Nat.zero_le _, by simp, .inl rfl, fun x hx => by simp at hx⟩
    · rw [cFact] at hel
      obtain ⟨b, o, sp⟩ := x
      have each : ∀ i, ∃ f : Fa, i < len → FaR f ∧ ∀ j y, (factC f.1 f.2)[j]? = some y → W.cell? ((⟨b, o, sp⟩ : Addr).add (i * 18 + j)) = some y := by
        intro i
        by_cases hi : i < len
        · obtain ⟨cs', h1, h2⟩ := hel i (by omega)
          obtain ⟨u, t, rfl, hu, ht⟩ := trod_fact h2
          refine ⟨(u, t), fun _ => ⟨⟨hu, ht⟩, fun j y hy => ?_⟩⟩
          obtain ⟨-, -, h3⟩ := World.cells?_some h1
          have hj : j < 18 := by
            rcases Nat.lt_or_ge j 18 with h | h
            · exact h
            · rw [Array.getElem?_eq_none (show (factC u t).size ≤ j from h)] at hy; cases hy
          have h4 := h3 j hj
          rw [add_add] at h4
          rw [h4, Array.getElem?_toList]
          exact hy
        · exact ⟨zeroA, fun h => absurd h hi⟩
      obtain ⟨F, hF⟩ : ∃ F : Nat → Fa, ∀ i, i < len → FaR (F i) ∧ ∀ j y, (factC (F i).1 (F i).2)[j]? = some y → W.cell? ((⟨b, o, sp⟩ : Addr).add (i * 18 + j)) = some y := ⟨fun i => (each i).choose, fun i hi => (each i).choose_spec hi⟩
      have hc0 := (hF 0 (by omega)).2 0 _ rfl
      obtain rfl := spot_none hc0
      refine ⟨some ⟨b, o, none⟩, (List.range len).map F, m, by rw [List.length_map, List.length_range], by rw [List.length_map, List.length_range]; exact hl, by rw [List.length_map, List.length_range]; omega, .inr ⟨b, o, rfl, fun i hi j y hy => ?_⟩, fun x hx => ?_⟩
      · rw [List.length_map, List.length_range] at hi
        have hget : ((List.range len).map F).getD i zeroA = F i := by
          rw [List.getD_eq_getElem?_getD, List.getElem?_map, List.getElem?_range hi]; rfl
        rw [hget] at hy
        have h5 := (hF i hi).2 j y hy
        rw [add_plain] at h5
        rw [Nat.add_assoc]
        exact h5
      · obtain ⟨i, hi, rfl⟩ := List.mem_map.1 hx
        exact (hF i (List.mem_range.1 hi)).1
end Go.Proofs.YtnndnjnpkjpkpaaGreatDoor
namespace Go.Proofs.YtnndnjnpkjpkpaaGreatDoor
open Go.ChangeShapes Go.WideShapes Go.ChangeAt Go.WideMaps Go.WideElems Go.RowKit
def IntsAt (w : World) (b o : Nat) (l : List Int) : Prop := ∀ i, i < l.length → w.cell? ⟨b, o + i, none⟩ = some (.int .i64 (l.getD i 0))
def IntsS (w : World) (A : Option Addr) (l : List Int) : Prop := l = [] ∨ ∃ b o, A = some ⟨b, o, none⟩ ∧ IntsAt w b o l
theorem IntsAt.keep {w w' : World} {b o : Nat} {l : List Int} (h : IntsAt w b o l) (hb : Below w.heap.size w w') : IntsAt w' b o l := fun i hi => (hb.cell (lt_of_cell (h i hi))).trans (h i hi)
theorem IntsS.keep {w w' : World} {A : Option Addr} {l : List Int} (h : IntsS w A l) (hb : Below w.heap.size w w') : IntsS w' A l := by
  rcases h with h | ⟨b, o, e, h⟩
  · exact .inl h
  · exact .inr ⟨b, o, e, h.keep hb⟩
set_option maxRecDepth 100000 in
theorem ints_view {H : Type} {enc : TypeId × Value → H} {W : World} {base : Nat} {v : Value} {d : DataW H} {p : List MemPlace}
    (hv : Value.okWide Tryz.prog W .any base 23 v) (h : DataW.Trod enc Tryz.prog W 0 (fun _ => true) true 23 v d p) :
    ∃ (a : Option Addr) (l : List Int) (cap : Nat), v = .slice a l.length cap ∧ l.length ≤ cap ∧ l.length ≤ 9223372036854775807 ∧ IntsS W a l ∧ ∀ x ∈ l, -9223372036854775808 ≤ x ∧ x ≤ 9223372036854775807 := by
  obtain ⟨a, len, cap, rfl⟩ := okWide_slice Tryz.underlying23 hv
  obtain ⟨fuel, hf⟩ := h
  rcases open_ints Tryz.underlying23 Tryz.underlying3 cInt hf with ⟨hcs, _⟩ | ⟨x, l, c, zs, hcs, _, hl, hm, hz, _, hcell, hwz⟩
  · simp [Value.cells] at hcs
    obtain ⟨rfl, rfl, rfl⟩ := hcs
    exact ⟨none, [], 0, rfl, Nat.le_refl _, by simp, .inl rfl, fun x hx => by simp at hx⟩
  · simp [Value.cells] at hcs
    obtain ⟨rfl, rfl, rfl⟩ := hcs
    unfold maxLen at hm
    have hzl : zs.length = cap := by simpa using hz
    have hlen : (zs.take len).length = len := by rw [List.length_take]; omega
    by_cases h0 : len = 0
    · subst h0
      exact ⟨some x, [], cap, rfl, Nat.zero_le _, by simp, .inl rfl, fun x hx => by simp at hx⟩
    · obtain ⟨b, o, sp⟩ := x
      obtain rfl := spot_none (hcell 0 (by omega))
      refine ⟨some ⟨b, o, none⟩, zs.take len, cap, by rw [hlen], by omega, by omega, .inr ⟨b, o, rfl, fun i hi => ?_⟩, fun y hy => bounds_i64 (hwz y (List.mem_of_mem_take hy))⟩
      rw [hlen] at hi
      have hc := hcell i (by omega)
      rw [add_plain] at hc
      rw [hc]
      simp only [List.getD_eq_getElem?_getD, List.getElem?_take, if_pos hi]
end Go.Proofs.YtnndnjnpkjpkpaaGreatDoor
