/- What comes in: integers in slices; facts that came in. Which facts a list holds decides its base. | How the laws' arguments read: slices of arrays of six integers, of facts, of integers; a fact, an array of six integers. -/
import Derived.Test.YtngkfopdlkddnaaK36
import Derived.Test.YtngkfopdlkddnaaK29
import Derived.Test.YtngkfopdlkddnaaK31
import Derived.Test.YtngkfopdlkddnaaRows
import Derived.ProofKit
import Derived.LaidMore
import Derived.OpenShut
import Derived.ShutString
import Derived.ChangeOld
import Derived.Stop.Joined
import Derived.Lib.LaidTab
import Derived.Lib.SmallJoins
import Derived.Deep.Slices
namespace Go.Proofs.Ytngkfopdlkddnaa
open Go Go.RowKit Go.Maps
def IntsAt (w : World) (b o : Nat) (l : List Int) : Prop := ∀ i, i < l.length → w.cell? ⟨b, o + i, none⟩ = some (.int .i64 (l.getD i 0))
def IntsS (w : World) (A : Option Addr) (l : List Int) : Prop := l = [] ∨ ∃ b o, A = some ⟨b, o, none⟩ ∧ IntsAt w b o l
theorem IntsAt.keep {w w' : World} {b o : Nat} {l : List Int} (h : IntsAt w b o l) (hb : Below w.heap.size w w') : IntsAt w' b o l := fun i hi => (hb.cell (lt_of_cell (h i hi))).trans (h i hi)
theorem IntsS.keep {w w' : World} {A : Option Addr} {l : List Int} (h : IntsS w A l) (hb : Below w.heap.size w w') : IntsS w' A l := by
  rcases h with h | ⟨b, o, e, h⟩
  · exact .inl h
  · exact .inr ⟨b, o, e, h.keep hb⟩
def FaR (f : Fa) : Prop := Ints f.1 ∧ f.2.size ≤ 9223372036854775807
theorem getD_mem {l : List Fa} {k : Nat} (h : k < l.length) : l.getD k zeroA ∈ l := by
  rw [List.getD_eq_getElem?_getD, List.getElem?_eq_getElem h]; exact List.getElem_mem h
/-- The same facts give the same base. -/
theorem base_same {l m : List Fa} (h : ∀ f, f ∈ l ↔ f ∈ m) {Ms Ns : Nat → List Fx} (hl : OfP l Ms) (hm : OfP m Ns) : ∀ k, k < 10 → Ms k = Ns k := fun k hk =>
  Bs.lst_unique orderK (fun key => Bs.best_same lawsX (fun x _ => by
    rw [List.mem_map, List.mem_map]
    constructor
    · rintro ⟨f, hf, rfl⟩; exact ⟨f, (h f).1 hf, rfl⟩
    · rintro ⟨f, hf, rfl⟩; exact ⟨f, (h f).2 hf, rfl⟩) key) (hl k hk) (hm k hk)
theorem sameB_of {Ms Ns : Nat → List Fx} (h : ∀ k, k < 10 → Ms k = Ns k) : sameB (fun k => (Ms k).map faX) (fun k => (Ns k).map faX) = true :=
  (sameB_iff _ _).2 fun k hk => by
    show eqL ((Ms k).map faX) ((Ns k).map faX) = true
    rw [h k hk]; exact eqL_self _
/-- Two change places: the same facts. -/
theorem swap_mem {l : List Fa} {a b : Nat} (ha : a < l.length) (hb : b < l.length) (f : Fa) : f ∈ (l.set a (l.getD b zeroA)).set b (l.getD a zeroA) ↔ f ∈ l := by
  have gD : ∀ k, k < l.length → l[k]? = some (l.getD k zeroA) := fun k hk => by rw [List.getD_eq_getElem?_getD, List.getElem?_eq_getElem hk]; rfl
  rw [List.mem_iff_getElem?, List.mem_iff_getElem?]
  constructor
  · rintro ⟨i, hi⟩
    by_cases h1 : b = i
    · rw [List.getElem?_set, if_pos h1, if_pos (by rw [List.length_set]; exact hb)] at hi
      exact ⟨a, by rw [gD a ha]; exact hi⟩
    · rw [List.getElem?_set, if_neg h1, List.getElem?_set] at hi
      by_cases h2 : a = i
      · rw [if_pos h2, if_pos ha] at hi
        exact ⟨b, by rw [gD b hb]; exact hi⟩
      · rw [if_neg h2] at hi
        exact ⟨i, hi⟩
  · rintro ⟨i, hi⟩
    by_cases h1 : i = a
    · subst h1
      refine ⟨b, ?_⟩
      rw [List.getElem?_set, if_pos rfl, if_pos (by rw [List.length_set]; exact hb), ← gD i ha]; exact hi
    · by_cases h2 : i = b
      · subst h2
        refine ⟨a, ?_⟩
        rw [List.getElem?_set, if_neg (fun e => h1 e), List.getElem?_set, if_pos rfl, if_pos ha, ← gD i hb]; exact hi
      · refine ⟨i, ?_⟩
        rw [List.getElem?_set, if_neg (fun e => h2 e.symm), List.getElem?_set, if_neg (fun e => h1 e.symm)]; exact hi
theorem slB_of {w : World} {base : Nat} {vs : Nat → Value} {Ms : Nat → List Fx} {n : Nat} (h : ∀ k, k < 10 → RowA w base (vs k) ((Ms k).map faX) ∧ (Ms k).length ≤ n) (hn : n ≤ 100000) : SlB w vs (fun k => (Ms k).map faX) := fun k hk => by
  obtain ⟨A, cap, h1, h2, h3⟩ := RowA.slice (h k hk).1
  exact ⟨A, cap, h1, h2, by have := (h k hk).2; rw [List.length_map]; omega, h3⟩
theorem factsF_len (xs : List (Nat → Int)) (raw : List Fa) : (factsF xs raw).length ≤ 100 := by
  have := factsL_len xs raw (min xs.length 50)
  unfold factsF
  omega
end Go.Proofs.Ytngkfopdlkddnaa
namespace Go.Proofs.Ytngkfopdlkddnaa
open Go.ChangeShapes Go.WideShapes Go.ChangeAt Go.WideMaps Go.WideElems Go.RowKit
open Go.Joins Go.Deep
theorem own : ownKnob Try.prog.godebug = none := by kernel_rfl
theorem laidOut : laidOutB Try.prog = true := by kernel_rfl
theorem cStr : Try.prog.cellsOf 9 = 1 := by kernel_rfl
theorem spot_none {w : World} {b o : Nat} {sp : Option Nat} {v : Value} (h : w.cell? (Addr.add ⟨b, o, sp⟩ 0) = some v) : sp = none := by
  simpa [Addr.add] using World.cell?_spot h
theorem add_plain (b o i : Nat) : Addr.add ⟨b, o, none⟩ i = ⟨b, o + i, none⟩ := by
  unfold Addr.add; split <;> simp_all
/-! ### A fact that came in -/
theorem fieldsL : (Try.prog.fieldsOf 29).toList.map (fun f => (f.type, f.offset)) = ((List.range 17).map fun i => (3, i)) ++ [(9, 17)] := by kernel_rfl
theorem fieldsN : (Try.prog.fieldsOf 29).size = 18 := by kernel_rfl
theorem fieldAt (i : Nat) (h : i < 17) : ∃ f, (Try.prog.fieldsOf 29)[i]? = some f ∧ f.type = 3 ∧ f.offset = i := by
  have h1 := congrArg (fun l => l[i]?) fieldsL
  simp only [List.getElem?_map] at h1
  rw [List.getElem?_append_left (by simp; omega), List.getElem?_map, List.getElem?_range h] at h1
  obtain ⟨f, hf1, hf2⟩ := Option.map_eq_some_iff.1 h1
  exact ⟨f, by rw [← hf1, Array.getElem?_toList], congrArg Prod.fst hf2, congrArg Prod.snd hf2⟩
theorem fieldAt17 : ∃ f, (Try.prog.fieldsOf 29)[17]? = some f ∧ f.type = 9 ∧ f.offset = 17 := by
  have h1 := congrArg (fun l => l[17]?) fieldsL
  simp only [List.getElem?_map] at h1
  rw [List.getElem?_append_right (by simp)] at h1
  obtain ⟨f, hf1, hf2⟩ := Option.map_eq_some_iff.1 (h1.trans (by rfl : _ = some (9, 17)))
  exact ⟨f, by rw [← hf1, Array.getElem?_toList], congrArg Prod.fst hf2, congrArg Prod.snd hf2⟩
theorem cInt : Try.prog.cellsOf 3 = 1 := by kernel_rfl
theorem cFact : Try.prog.cellsOf 29 = 18 := by kernel_rfl
theorem one_of (l : List Value) (i : Nat) (h : i < l.length) : (l.drop i).take 1 = [l[i]] := by
  rw [List.drop_eq_getElem_cons h]; rfl
set_option maxRecDepth 100000 in
theorem open_fact {H : Type} {enc : TypeId × Value → H} {w : World} {base b0 : Nat} {spare : Nat → Bool} {held : Bool} {v : Value} {d : DataW H} {p : List MemPlace}
    (hv : Value.okWide Try.prog w .any b0 29 v) (h : DataW.Trod enc Try.prog w base spare held 29 v d p) :
    ∃ (u : Nat → Int) (t : ByteArray), v = .agg (factC u t) ∧ Ints u ∧ t.size ≤ 9223372036854775807 := by
  obtain ⟨cs, rfl, hsz⟩ := okWide_struct fieldsFact hv
  rw [cFact] at hsz
  obtain ⟨fuel, hf⟩ := h
  obtain ⟨xs, n, _, hx, hcl, hlen, hg⟩ := DataW.trod_struct fieldsFact hf
  have hl : cs.toList.length = 18 := by simpa using hsz
  have hxl : xs.length = 18 := hlen.trans fieldsN
  have hI : ∀ i, i < 17 → ∃ a : Int, cs.toList[i]? = some (.int .i64 a) ∧ -9223372036854775808 ≤ a ∧ a ≤ 9223372036854775807 := by
    intro i hi
    obtain ⟨f, hf1, hf2, hf3⟩ := fieldAt i hi
    have h1 := hg i f hf1
    rw [hf2, hf3, cInt] at h1
    rw [show (Value.agg cs).cells.toList = cs.toList from rfl, one_of _ i (by omega), List.getElem?_eq_getElem (by omega)] at h1
    obtain ⟨a, ha, _, hw⟩ := DataW.trod_int Try.underlying3 h1
    have hb := bounds_i64 hw
    refine ⟨a, ?_, hb.1, hb.2⟩
    rw [List.getElem?_eq_getElem (by omega)]
    exact congrArg some (List.cons.inj ha).1
  have hS : ∃ t : ByteArray, cs.toList[17]? = some (.string t) ∧ t.size ≤ 9223372036854775807 := by
    obtain ⟨f, hf1, hf2, hf3⟩ := fieldAt17
    have h1 := hg 17 f hf1
    rw [hf2, hf3, cStr] at h1
    rw [show (Value.agg cs).cells.toList = cs.toList from rfl, one_of _ 17 (by omega), List.getElem?_eq_getElem (by omega)] at h1
    obtain ⟨t, ha, _, hw⟩ := DataW.trod_string Try.underlying9 h1
    refine ⟨t, ?_, hw⟩
    rw [List.getElem?_eq_getElem (by omega)]
    exact congrArg some (List.cons.inj ha).1
  obtain ⟨t, ht, hts⟩ := hS
  let u : Nat → Int := fun i => match cs.toList[i]? with | some (.int _ a) => a | _ => 0
  have hu : ∀ i, i < 17 → cs.toList[i]? = some (.int .i64 (u i)) ∧ -9223372036854775808 ≤ u i ∧ u i ≤ 9223372036854775807 := fun i hi => by
    obtain ⟨a, h1, h2, h3⟩ := hI i hi
    have e : u i = a := by show (match cs.toList[i]? with | some (.int _ a) => a | _ => 0) = a; rw [h1]
    rw [e]
    exact ⟨h1, h2, h3⟩
  refine ⟨u, t, ?_, fun i hi => (hu i hi).2, hts⟩
  congr 1
  apply Array.ext'
  apply List.ext_getElem?
  intro i
  rcases Nat.lt_trichotomy i 17 with h1 | h1 | h1
  · rw [(hu i h1).1, Array.getElem?_toList, factC_get u t i h1]
  · subst h1; rw [ht]; rfl
  · rw [List.getElem?_eq_none (by omega), List.getElem?_eq_none (show (factC u t).toList.length ≤ i from h1)]
set_option maxRecDepth 100000 in
theorem trod_fact {H : Type} {enc : TypeId × Value → H} {w : World} {base : Nat} {spare : Nat → Bool} {held : Bool} {fuel : Nat} {cs : List Value} {x : DataW H × List MemPlace}
    (hf : DataW.trod enc Try.prog w base spare held fuel 29 cs = some x) : ∃ (u : Nat → Int) (t : ByteArray), cs = (factC u t).toList ∧ Ints u ∧ t.size ≤ 9223372036854775807 := by
  obtain ⟨xs, n, _, hx, hcl, hlen, hg⟩ := DataW.trod_struct fieldsFact hf
  rw [cFact] at hcl
  have hl : cs.length = 18 := hcl
  have hxl : xs.length = 18 := hlen.trans fieldsN
  have hI : ∀ i, i < 17 → ∃ a : Int, cs[i]? = some (.int .i64 a) ∧ -9223372036854775808 ≤ a ∧ a ≤ 9223372036854775807 := by
    intro i hi
    obtain ⟨f, hf1, hf2, hf3⟩ := fieldAt i hi
    have h1 := hg i f hf1
    rw [hf2, hf3, cInt] at h1
    rw [one_of _ i (by omega), List.getElem?_eq_getElem (by omega)] at h1
    obtain ⟨a, ha, _, hw⟩ := DataW.trod_int Try.underlying3 h1
    have hb := bounds_i64 hw
    refine ⟨a, ?_, hb.1, hb.2⟩
    rw [List.getElem?_eq_getElem (by omega)]
    exact congrArg some (List.cons.inj ha).1
  have hS : ∃ t : ByteArray, cs[17]? = some (.string t) ∧ t.size ≤ 9223372036854775807 := by
    obtain ⟨f, hf1, hf2, hf3⟩ := fieldAt17
    have h1 := hg 17 f hf1
    rw [hf2, hf3, cStr] at h1
    rw [one_of _ 17 (by omega), List.getElem?_eq_getElem (by omega)] at h1
    obtain ⟨t, ha, _, hw⟩ := DataW.trod_string Try.underlying9 h1
    refine ⟨t, ?_, hw⟩
    rw [List.getElem?_eq_getElem (by omega)]
    exact congrArg some (List.cons.inj ha).1
  obtain ⟨t, ht, hts⟩ := hS
  let u : Nat → Int := fun i => match cs[i]? with | some (.int _ a) => a | _ => 0
  have hu : ∀ i, i < 17 → cs[i]? = some (.int .i64 (u i)) ∧ -9223372036854775808 ≤ u i ∧ u i ≤ 9223372036854775807 := fun i hi => by
    obtain ⟨a, h1, h2, h3⟩ := hI i hi
    have e : u i = a := by show (match cs[i]? with | some (.int _ a) => a | _ => 0) = a; rw [h1]
    rw [e]
    exact ⟨h1, h2, h3⟩
  refine ⟨u, t, ?_, fun i hi => (hu i hi).2, hts⟩
  apply List.ext_getElem?
  intro i
  rcases Nat.lt_trichotomy i 17 with h1 | h1 | h1
  · rw [(hu i h1).1, Array.getElem?_toList, factC_get u t i h1]
  · subst h1; rw [ht]; rfl
  · rw [List.getElem?_eq_none (by omega), List.getElem?_eq_none (show (factC u t).toList.length ≤ i from h1)]
set_option maxRecDepth 100000 in
theorem facts_view {H : Type} {enc : TypeId × Value → H} {W : World} {base : Nat} {v : Value} {d : DataW H} {p : List MemPlace}
    (hv : Value.okWide Try.prog W .any base 23 v) (h : DataW.Trod enc Try.prog W 0 (fun _ => true) true 23 v d p) :
    ∃ (a : Option Addr) (l : List Fa) (cap : Nat), v = .slice a l.length cap ∧ l.length ≤ cap ∧ l.length ≤ 9223372036854775807 ∧ FactsS W a l ∧ ∀ x ∈ l, FaR x := by
  obtain ⟨a, len, cap, rfl⟩ := okWide_slice Try.underlying23 hv
  obtain ⟨fuel, hf⟩ := h
  rcases open_slice Try.underlying23 hf with ⟨hcs, _⟩ | ⟨x, l, c, m, n, D, Pl, hcs, _, hl, hm, hmm, _, hel⟩
  · simp [Value.cells] at hcs
    obtain ⟨rfl, rfl, rfl⟩ := hcs
    exact ⟨none, [], 0, rfl, Nat.le_refl _, by simp, .inl rfl, fun x hx => by simp at hx⟩
  · simp [Value.cells] at hcs
    obtain ⟨rfl, rfl, rfl⟩ := hcs
    unfold maxLen at hm
    simp at hmm
    subst hmm
    by_cases h0 : len = 0
    · subst h0
      exact ⟨some x, [], m, rfl, Nat.zero_le _, by simp, .inl rfl, fun x hx => by simp at hx⟩
    · rw [cFact] at hel
      obtain ⟨b, o, sp⟩ := x
      have each : ∀ i, ∃ f : Fa, i < len → FaR f ∧ ∀ j y, (factC f.1 f.2)[j]? = some y → W.cell? ((⟨b, o, sp⟩ : Addr).add (i * 18 + j)) = some y := by
        intro i
        by_cases hi : i < len
        · obtain ⟨cs', h1, h2⟩ := hel i (by omega)
          obtain ⟨u, t, rfl, hu, ht⟩ := trod_fact h2
          refine ⟨(u, t), fun _ => ⟨⟨hu, ht⟩, fun j y hy => ?_⟩⟩
          obtain ⟨-, -, h3⟩ := World.cells?_some h1
          have hj : j < 18 := by
            rcases Nat.lt_or_ge j 18 with h | h
            · exact h
            · rw [Array.getElem?_eq_none (show (factC u t).size ≤ j from h)] at hy; cases hy
          have h4 := h3 j hj
          rw [add_add] at h4
          rw [h4, Array.getElem?_toList]
          exact hy
        · exact ⟨zeroA, fun h => absurd h hi⟩
      obtain ⟨F, hF⟩ : ∃ F : Nat → Fa, ∀ i, i < len → FaR (F i) ∧ ∀ j y, (factC (F i).1 (F i).2)[j]? = some y → W.cell? ((⟨b, o, sp⟩ : Addr).add (i * 18 + j)) = some y := ⟨fun i => (each i).choose, fun i hi => (each i).choose_spec hi⟩
      have hc0 := (hF 0 (by omega)).2 0 _ rfl
      obtain rfl := spot_none hc0
      refine ⟨some ⟨b, o, none⟩, (List.range len).map F, m, by rw [List.length_map, List.length_range], by rw [List.length_map, List.length_range]; exact hl, by rw [List.length_map, List.length_range]; omega, .inr ⟨b, o, rfl, fun i hi j y hy => ?_⟩, fun x hx => ?_⟩
      · rw [List.length_map, List.length_range] at hi
        have hget : ((List.range len).map F).getD i zeroA = F i := by
          rw [List.getD_eq_getElem?_getD, List.getElem?_map, List.getElem?_range hi]; rfl
        rw [hget] at hy
        have h5 := (hF i hi).2 j y hy
        rw [add_plain] at h5
        rw [Nat.add_assoc]
        exact h5
      · obtain ⟨i, hi, rfl⟩ := List.mem_map.1 hx
        exact (hF i (List.mem_range.1 hi)).1
set_option maxRecDepth 100000 in
theorem ints_view {H : Type} {enc : TypeId × Value → H} {W : World} {base : Nat} {v : Value} {d : DataW H} {p : List MemPlace}
    (hv : Value.okWide Try.prog W .any base 24 v) (h : DataW.Trod enc Try.prog W 0 (fun _ => true) true 24 v d p) :
    ∃ (a : Option Addr) (l : List Int) (cap : Nat), v = .slice a l.length cap ∧ l.length ≤ cap ∧ l.length ≤ 9223372036854775807 ∧ IntsS W a l ∧ ∀ x ∈ l, -9223372036854775808 ≤ x ∧ x ≤ 9223372036854775807 := by
  obtain ⟨a, len, cap, rfl⟩ := okWide_slice Try.underlying24 hv
  obtain ⟨fuel, hf⟩ := h
  rcases open_ints Try.underlying24 Try.underlying3 cInt hf with ⟨hcs, _⟩ | ⟨x, l, c, zs, hcs, _, hl, hm, hz, _, hcell, hwz⟩
  · simp [Value.cells] at hcs
    obtain ⟨rfl, rfl, rfl⟩ := hcs
    exact ⟨none, [], 0, rfl, Nat.le_refl _, by simp, .inl rfl, fun x hx => by simp at hx⟩
  · simp [Value.cells] at hcs
    obtain ⟨rfl, rfl, rfl⟩ := hcs
    unfold maxLen at hm
    have hzl : zs.length = cap := by simpa using hz
    have hlen : (zs.take len).length = len := by rw [List.length_take]; omega
    by_cases h0 : len = 0
    · subst h0
      exact ⟨some x, [], cap, rfl, Nat.zero_le _, by simp, .inl rfl, fun x hx => by simp at hx⟩
    · obtain ⟨b, o, sp⟩ := x
      obtain rfl := spot_none (hcell 0 (by omega))
      refine ⟨some ⟨b, o, none⟩, zs.take len, cap, by rw [hlen], by omega, by omega, .inr ⟨b, o, rfl, fun i hi => ?_⟩, fun y hy => bounds_i64 (hwz y (List.mem_of_mem_take hy))⟩
      rw [hlen] at hi
      have hc := hcell i (by omega)
      rw [add_plain] at hc
      rw [hc]
      simp only [List.getD_eq_getElem?_getD, List.getElem?_take, if_pos hi]
set_option maxRecDepth 100000 in
theorem six_list {cs : List Value} (hl : cs.length = 6) (hI : ∀ i, i < 6 → ∃ a : Int, cs[i]? = some (.int .i64 a) ∧ -9223372036854775808 ≤ a ∧ a ≤ 9223372036854775807) : ∃ u : Nat → Int, cs = (cells6 u).toList ∧ In6 u := by
  let u : Nat → Int := fun i => match cs[i]? with | some (.int _ a) => a | _ => 0
  have hu : ∀ i, i < 6 → cs[i]? = some (.int .i64 (u i)) ∧ -9223372036854775808 ≤ u i ∧ u i ≤ 9223372036854775807 := fun i hi => by
    obtain ⟨a, h1, h2, h3⟩ := hI i hi
    have e : u i = a := by show (match cs[i]? with | some (.int _ a) => a | _ => 0) = a; rw [h1]
    rw [e]
    exact ⟨h1, h2, h3⟩
  refine ⟨u, ?_, fun i hi => (hu i hi).2⟩
  apply List.ext_getElem?
  intro i
  by_cases h : i < 6
  · rw [(hu i h).1]
    have hc : i = 0 ∨ i = 1 ∨ i = 2 ∨ i = 3 ∨ i = 4 ∨ i = 5 := by omega
    rcases hc with rfl | rfl | rfl | rfl | rfl | rfl <;> rfl
  · rw [List.getElem?_eq_none (by omega), List.getElem?_eq_none (show (cells6 u).toList.length ≤ i from by show 6 ≤ i; omega)]
theorem cSix : Try.prog.cellsOf 37 = 6 := by kernel_rfl
set_option maxRecDepth 100000 in
theorem trod_six {H : Type} {enc : TypeId × Value → H} {w : World} {base : Nat} {spare : Nat → Bool} {held : Bool} {fuel : Nat} {cs : List Value} {x : DataW H × List MemPlace}
    (hf : DataW.trod enc Try.prog w base spare held fuel 37 cs = some x) : ∃ u : Nat → Int, cs = (cells6 u).toList ∧ In6 u := by
  obtain ⟨xs, m, _, hx, hcl, hlen, hg⟩ := DataW.trod_array Try.underlying37 hf
  rw [cSix] at hcl
  refine six_list hcl (fun i hi => ?_)
  have h1 := hg i hi
  rw [cInt, Nat.mul_one, one_of _ i (by omega), List.getElem?_eq_getElem (by omega)] at h1
  obtain ⟨a, ha, _, hw⟩ := DataW.trod_int Try.underlying3 h1
  have hb := bounds_i64 hw
  refine ⟨a, ?_, hb.1, hb.2⟩
  rw [List.getElem?_eq_getElem (by omega)]
  exact congrArg some (List.cons.inj ha).1
set_option maxRecDepth 100000 in
theorem open_six {H : Type} {enc : TypeId × Value → H} {w : World} {base b0 : Nat} {spare : Nat → Bool} {held : Bool} {v : Value} {d : DataW H} {p : List MemPlace}
    (hv : Value.okWide Try.prog w .any b0 37 v) (h : DataW.Trod enc Try.prog w base spare held 37 v d p) : ∃ u : Nat → Int, v = .agg (cells6 u) ∧ In6 u := by
  have h2 := hv
  simp only [Value.okWide, Try.underlying37] at h2
  obtain ⟨cs, rfl, hsz, _⟩ := h2
  obtain ⟨fuel, hf⟩ := h
  obtain ⟨u, hu, hi⟩ := trod_six hf
  refine ⟨u, ?_, hi⟩
  congr 1
  apply Array.ext'
  exact hu
set_option maxRecDepth 100000 in
theorem sixes_view {H : Type} {enc : TypeId × Value → H} {W : World} {base : Nat} {v : Value} {d : DataW H} {p : List MemPlace}
    (hv : Value.okWide Try.prog W .any base 22 v) (h : DataW.Trod enc Try.prog W 0 (fun _ => true) true 22 v d p) :
    ∃ (a : Option Addr) (l : List (Nat → Int)) (cap : Nat), v = .slice a l.length cap ∧ l.length ≤ cap ∧ l.length ≤ 9223372036854775807 ∧ SixS W a l ∧ ∀ x ∈ l, In6 x := by
  obtain ⟨a, len, cap, rfl⟩ := okWide_slice Try.underlying22 hv
  obtain ⟨fuel, hf⟩ := h
  rcases open_slice Try.underlying22 hf with ⟨hcs, _⟩ | ⟨x, l, c, m, n, D, Pl, hcs, _, hl, hm, hmm, _, hel⟩
  · simp [Value.cells] at hcs
    obtain ⟨rfl, rfl, rfl⟩ := hcs
    exact ⟨none, [], 0, rfl, Nat.le_refl _, by simp, .inl rfl, fun x hx => by simp at hx⟩
  · simp [Value.cells] at hcs
    obtain ⟨rfl, rfl, rfl⟩ := hcs
    unfold maxLen at hm
    simp at hmm
    subst hmm
    by_cases h0 : len = 0
    · subst h0
      exact ⟨some x, [], m, rfl, Nat.zero_le _, by simp, .inl rfl, fun x hx => by simp at hx⟩
    · rw [cSix] at hel
      obtain ⟨b, o, sp⟩ := x
      have each : ∀ i, ∃ f : Nat → Int, i < len → In6 f ∧ ∀ j, j < 6 → W.cell? ((⟨b, o, sp⟩ : Addr).add (i * 6 + j)) = some (.int .i64 (f j)) := by
        intro i
        by_cases hi : i < len
        · obtain ⟨cs', h1, h2⟩ := hel i (by omega)
          obtain ⟨u, rfl, hu⟩ := trod_six h2
          refine ⟨u, fun _ => ⟨hu, fun j hj => ?_⟩⟩
          obtain ⟨-, -, h3⟩ := World.cells?_some h1
          have h4 := h3 j hj
          rw [add_add] at h4
          rw [h4]
          have hc : j = 0 ∨ j = 1 ∨ j = 2 ∨ j = 3 ∨ j = 4 ∨ j = 5 := by omega
          rcases hc with rfl | rfl | rfl | rfl | rfl | rfl <;> rfl
        · exact ⟨zero6, fun h => absurd h hi⟩
      obtain ⟨F, hF⟩ : ∃ F : Nat → Nat → Int, ∀ i, i < len → In6 (F i) ∧ ∀ j, j < 6 → W.cell? ((⟨b, o, sp⟩ : Addr).add (i * 6 + j)) = some (.int .i64 (F i j)) := ⟨fun i => (each i).choose, fun i hi => (each i).choose_spec hi⟩
      have hc0 := (hF 0 (by omega)).2 0 (by omega)
      obtain rfl := spot_none hc0
      refine ⟨some ⟨b, o, none⟩, (List.range len).map F, m, by rw [List.length_map, List.length_range], by rw [List.length_map, List.length_range]; exact hl, by rw [List.length_map, List.length_range]; omega, .inr ⟨b, o, rfl, fun i hi j hj => ?_⟩, fun x hx => ?_⟩
      · rw [List.length_map, List.length_range] at hi
        have hget : ((List.range len).map F).getD i zero6 = F i := by
          rw [List.getD_eq_getElem?_getD, List.getElem?_map, List.getElem?_range hi]; rfl
        rw [hget]
        have h5 := (hF i hi).2 j hj
        rw [add_plain] at h5
        rw [Nat.add_assoc]
        exact h5
      · obtain ⟨i, hi, rfl⟩ := List.mem_map.1 hx
        exact (hF i (List.mem_range.1 hi)).1
end Go.Proofs.Ytngkfopdlkddnaa
