/- Plain mathematics of sets: lists of keys with values, ascending by their keys, and what a map that holds one reads as. | Plain mathematics of sets of facts: what adding, uniting and taking a part give, whatever the order. -/
import Derived.Maps.Own
import Derived.Maps.Views
import Derived.Sort.KeysCollected
import Derived.Sort.Walk0
import Derived.Laws.Strings
import Derived.Test.YtngkfopdlkddnaaK11
namespace Go.Proofs.Ytngkfopdlkddnaa
open Go.RowKit Go.Maps

/-- An element: its key and its value. -/
abbrev Ent := List UInt8 × Value
/-- What a map with these entries reads as. -/
def dS (es : List Ent) : DataW Value := .map (es.map fun p => (Lit.string p.1, .held p.2))
/-- Every value reads as itself. -/
def valR (v : Value) : Option (DataW Value × List MemPlace) := some (.held v, [])
/-- The keys ascend. -/
def Asc (es : List Ent) : Prop := es.Pairwise (fun p q => Op.bytesLess p.1 q.1 = true)
/-- The value with a key. -/
def getE : List Ent → List UInt8 → Option Value
  | [], _ => none
  | p :: r, k => if p.1 = k then some p.2 else getE r k
def hasE (es : List Ent) (k : List UInt8) : Bool := (getE es k).isSome
/-- A key's value is set. -/
def putE (k : List UInt8) (x : Value) : List Ent → List Ent
  | [] => [(k, x)]
  | p :: r => if p.1 = k then (k, x) :: r else if Op.bytesLess k p.1 = true then (k, x) :: p :: r else p :: putE k x r

theorem ls_irr (x : List UInt8) : Op.bytesLess x x = false := by rw [bytesLess_eq]; simp
theorem ls_trans {x y z : List UInt8} (h : Op.bytesLess x y = true) (g : Op.bytesLess y z = true) : Op.bytesLess x z = true := by
  rw [bytesLess_eq, decide_eq_true_eq] at *; exact List.lt_trans h g
theorem before_eq : ∀ x y : List UInt8, bytesBefore x y = Op.bytesLess x y := by
  intro x
  induction x with
  | nil => intro y; cases y <;> rfl
  | cons a x ih => intro y; cases y with
    | nil => rfl
    | cons b y => unfold bytesBefore Op.bytesLess; rw [ih]
theorem ls_tri {x y : List UInt8} (h : x ≠ y) (g : ¬ Op.bytesLess x y = true) : Op.bytesLess y x = true := by
  rcases WideAt.bytes_total x y h with h1 | h1
  · rw [before_eq] at h1; exact absurd h1 g
  · rw [before_eq] at h1; exact h1

theorem getE_mem {es : List Ent} {k : List UInt8} {x : Value} (h : getE es k = some x) : (k, x) ∈ es := by
  induction es with
  | nil => cases h
  | cons p r ih =>
    unfold getE at h
    split at h
    · rename_i e; cases h; subst e; exact List.mem_cons_self ..
    · exact List.mem_cons_of_mem _ (ih h)
theorem getE_none {es : List Ent} {k : List UInt8} : getE es k = none ↔ ∀ p ∈ es, p.1 ≠ k := by
  induction es with
  | nil => simp [getE]
  | cons p r ih =>
    unfold getE
    split
    · rename_i e; simp [e]
    · rename_i e; simp [ih, e]
theorem asc_head {p : Ent} {r : List Ent} (h : Asc (p :: r)) : ∀ q ∈ r, Op.bytesLess p.1 q.1 = true := (List.pairwise_cons.1 h).1
theorem asc_tail {p : Ent} {r : List Ent} (h : Asc (p :: r)) : Asc r := (List.pairwise_cons.1 h).2
theorem mem_getE {es : List Ent} (h : Asc es) {k : List UInt8} {x : Value} (hm : (k, x) ∈ es) : getE es k = some x := by
  induction es with
  | nil => cases hm
  | cons p r ih =>
    unfold getE
    rcases List.mem_cons.1 hm with e | e
    · subst e; rw [if_pos rfl]
    · have := asc_head h _ e
      rw [if_neg (fun e' => by simp only at this; rw [e', ls_irr] at this; cases this)]
      exact ih (asc_tail h) e
/-- Two ascending lists with the same values at all keys are the same. -/
theorem asc_ext : ∀ {es fs : List Ent}, Asc es → Asc fs → (∀ k, getE es k = getE fs k) → es = fs := by
  intro es
  induction es with
  | nil =>
    intro fs _ _ h
    cases fs with
    | nil => rfl
    | cons q s => have := h q.1; simp [getE] at this
  | cons p r ih =>
    intro fs he hf h
    cases fs with
    | nil => have := h p.1; simp [getE] at this
    | cons q s =>
      have e1 : p.1 = q.1 := by
        apply Classical.byContradiction
        intro hne
        by_cases hl : Op.bytesLess p.1 q.1 = true
        · have h1 := h p.1
          rw [show getE (p :: r) p.1 = some p.2 by simp [getE]] at h1
          have := getE_mem h1.symm
          rcases List.mem_cons.1 this with e | e
          · exact hne (congrArg Prod.fst e)
          · have h2 := ls_trans hl (asc_head hf _ e)
            simp only at h2
            rw [ls_irr] at h2; cases h2
        · have hl' := ls_tri hne hl
          have h1 := h q.1
          rw [show getE (q :: s) q.1 = some q.2 by simp [getE]] at h1
          have := getE_mem h1
          rcases List.mem_cons.1 this with e | e
          · exact hne (congrArg Prod.fst e).symm
          · have h2 := ls_trans hl' (asc_head he _ e)
            simp only at h2
            rw [ls_irr] at h2; cases h2
      have e2 : p.2 = q.2 := by
        have h1 := h p.1
        simp only [getE, e1, if_true, Option.some.injEq] at h1
        exact h1
      have e3 : p = q := Prod.ext e1 e2
      subst e3
      rw [ih (asc_tail he) (asc_tail hf) (fun k => ?_)]
      have h1 := h k
      unfold getE at h1
      by_cases hk : p.1 = k
      · have n1 : getE r k = none := getE_none.2 (fun z hz e => by
          have := asc_head he z hz; rw [hk, ← e, ls_irr] at this; cases this)
        have n2 : getE s k = none := getE_none.2 (fun z hz e => by
          have := asc_head hf z hz; rw [hk, ← e, ls_irr] at this; cases this)
        rw [n1, n2]
      · rw [if_neg hk, if_neg hk] at h1; exact h1

theorem putE_mem {k : List UInt8} {x : Value} {es : List Ent} {p : Ent} (h : p ∈ putE k x es) : p = (k, x) ∨ p ∈ es := by
  induction es with
  | nil => left; simpa [putE] using h
  | cons q r ih =>
    unfold putE at h
    split at h
    · rcases List.mem_cons.1 h with e | e
      · exact .inl e
      · exact .inr (List.mem_cons_of_mem _ e)
    · split at h
      · rcases List.mem_cons.1 h with e | e
        · exact .inl e
        · exact .inr e
      · rcases List.mem_cons.1 h with e | e
        · exact .inr (by rw [e]; exact List.mem_cons_self ..)
        · rcases ih e with e | e
          · exact .inl e
          · exact .inr (List.mem_cons_of_mem _ e)
theorem putE_asc {k : List UInt8} {x : Value} {es : List Ent} (h : Asc es) : Asc (putE k x es) := by
  induction es with
  | nil => simp [putE, Asc]
  | cons q r ih =>
    unfold putE
    split
    · rename_i e
      exact List.pairwise_cons.2 ⟨fun z hz => by rw [← e]; exact asc_head h z hz, asc_tail h⟩
    · split
      · rename_i hl
        refine List.pairwise_cons.2 ⟨fun z hz => ?_, h⟩
        rcases List.mem_cons.1 hz with e | e
        · rw [e]; exact hl
        · exact ls_trans hl (asc_head h z e)
      · rename_i hne hl
        refine List.pairwise_cons.2 ⟨fun z hz => ?_, ih (asc_tail h)⟩
        rcases putE_mem hz with e | e
        · rw [e]; exact ls_tri (Ne.symm hne) hl
        · exact asc_head h z e
theorem putE_get {k : List UInt8} {x : Value} {es : List Ent} (h : Asc es) (k' : List UInt8) : getE (putE k x es) k' = if k = k' then some x else getE es k' := by
  induction es with
  | nil => unfold putE getE; rfl
  | cons q r ih =>
    unfold putE
    split
    · rename_i e
      unfold getE
      by_cases hk : k = k'
      · rw [if_pos hk, if_pos hk]
      · rw [if_neg hk, if_neg hk, if_neg (by rw [e]; exact hk)]
    · split
      · conv => lhs; unfold getE
      · rename_i hne hl
        unfold getE
        rw [ih (asc_tail h)]
        by_cases hq : q.1 = k'
        · rw [if_pos hq, if_pos hq, if_neg (fun e => hne (by rw [hq, e]))]
        · rw [if_neg hq, if_neg hq]
theorem putE_length {k : List UInt8} {x : Value} {es : List Ent} (h : Asc es) : (putE k x es).length = if hasE es k = true then es.length else es.length + 1 := by
  induction es with
  | nil => simp [putE, hasE, getE]
  | cons q r ih =>
    unfold putE hasE getE
    split
    · simp
    · split
      · rename_i hne hl
        have : getE r k = none := getE_none.2 (fun z hz e => by
          have h1 := ls_trans hl (asc_head h z hz); rw [e, ls_irr] at h1; cases h1)
        rw [this]; simp
      · have := ih (asc_tail h)
        unfold hasE at this
        rw [List.length_cons, this]
        split <;> simp
theorem has_dS (es : List Ent) (k : List UInt8) : Maps.has (dS es) (.string k) = hasE es k := by
  unfold dS hasE
  rw [Maps.has_eq]
  induction es with
  | nil => rfl
  | cons p r ih =>
    rw [List.map_cons, List.any_cons, ih]
    by_cases h : p.1 = k
    · rw [show getE (p :: r) k = some p.2 by rw [getE, if_pos h]]; simp [Lit.sameKey, h]
    · rw [show getE (p :: r) k = getE r k by rw [getE, if_neg h]]; simp [Lit.sameKey, h]
theorem at_dS (es : List Ent) (k : List UInt8) (z : Value) : (dS es).atKey (.string k) (.held z) = .held ((getE es k).getD z) := by
  unfold dS DataW.atKey
  simp only
  induction es with
  | nil => rfl
  | cons p r ih =>
    rw [List.map_cons, List.find?_cons]
    unfold getE
    by_cases h : p.1 = k
    · rw [if_pos h]; simp [Lit.sameKey, h]
    · rw [if_neg h]
      rw [show ((Lit.string p.1).sameKey (.string k)) = false by simp [Lit.sameKey, h]]
      exact ih
theorem size_dS (es : List Ent) : Maps.size (dS es) = es.length := by unfold dS; rw [Maps.size_eq, List.length_map]
theorem filter_asc {es : List Ent} {k : List UInt8} (h : ∀ p ∈ es, p.1 ≠ k) : (es.map fun p => ((Lit.string p.1, .held p.2) : Lit × DataW Value)).filter (fun p => !p.1.sameKey (.string k)) = es.map fun p => (Lit.string p.1, .held p.2) := by
  rw [List.filter_eq_self]
  intro p hp
  obtain ⟨q, hq, rfl⟩ := List.mem_map.1 hp
  have := h q hq
  simp [Lit.sameKey, this]
theorem insert_head {k : List UInt8} {x : Value} {es : List Ent} (h : ∀ p ∈ es, Op.bytesLess k p.1 = true) :
    DataW.insert (Lit.string k, DataW.held x) (es.map fun p => (Lit.string p.1, .held p.2)) = (Lit.string k, .held x) :: es.map fun p => (Lit.string p.1, .held p.2) := by
  cases es with
  | nil => rfl
  | cons p r =>
    rw [List.map_cons]
    unfold DataW.insert
    have := h p (List.mem_cons_self ..)
    simp [Lit.before, before_eq, this]
theorem put_dS {es : List Ent} (h : Asc es) (k : List UInt8) (x : Value) : (dS es).put (.string k) (.held x) = dS (putE k x es) := by
  unfold dS DataW.put
  simp only
  congr 1
  induction es with
  | nil => rfl
  | cons p r ih =>
    have hh := asc_head h
    unfold putE
    split
    · rename_i e
      rw [List.map_cons, List.filter_cons]
      have hn : ∀ q ∈ r, q.1 ≠ k := fun q hq e' => by have := hh q hq; rw [e, e', ls_irr] at this; cases this
      have e' : (!(Lit.string p.1).sameKey (.string k)) = false := by simp [Lit.sameKey, e]
      simp only [e', Bool.false_eq_true, if_false]
      rw [filter_asc hn, insert_head (fun q hq => by rw [← e]; exact hh q hq)]
      rfl
    · rename_i e
      rw [List.map_cons, List.filter_cons]
      have e' : (!(Lit.string p.1).sameKey (.string k)) = true := by simp [Lit.sameKey, e]
      simp only [e', if_true]
      split
      · rename_i hl
        have hn : ∀ q ∈ r, q.1 ≠ k := fun q hq e' => by have := ls_trans hl (hh q hq); rw [e', ls_irr] at this; cases this
        rw [filter_asc hn]
        conv => lhs; unfold DataW.insert
        simp [Lit.before, before_eq, hl]
      · rename_i hl
        conv => lhs; unfold DataW.insert
        have : (Lit.string k).before (Lit.string p.1) = false := by simp only [Lit.before, before_eq]; simpa using hl
        simp only [this, Bool.false_eq_true, if_false]
        rw [ih (asc_tail h)]
        rfl
theorem keys_dS (es : List Ent) : strKeys (dS es) = es.map (·.1) := by
  show (es.map fun p => ((Lit.string p.1, DataW.held p.2) : Lit × DataW Value)).map (fun p => strOf p.1) = es.map (·.1)
  rw [List.map_map]
  rfl
theorem sorted_dS {es : List Ent} (h : Asc es) {ss : List (List UInt8)} (hp : ss.Perm (strKeys (dS es))) : ss.mergeSort leB = es.map (·.1) := by
  rw [mergeSort_of_perm hp, keys_dS]
  refine List.mergeSort_of_pairwise ?_
  rw [List.pairwise_map]
  refine h.imp ?_
  intro a b hab
  rw [bytesLess_eq, decide_eq_true_eq] at hab
  unfold leB
  rw [decide_eq_true_eq]
  exact List.le_of_lt hab

end Go.Proofs.Ytngkfopdlkddnaa
namespace Go.Proofs.Ytngkfopdlkddnaa
open Go.RowKit Go.Maps

/-- A fact: its numbers and its text. -/
abbrev Fa := (Nat → Int) × ByteArray
abbrev valF (f : Fa) : Value := factV f.1 f.2
/-- The ID of a valid fact. -/
def keyF (f : Fa) : List UInt8 := shaF (encV f.1 f.2.data.toList)
abbrev okA (f : Fa) : Bool := okT f.1 f.2
/-- A fact is added. -/
def plusE (es : List Ent) (f : Fa) : List Ent := if (okA f && !hasE es (keyF f) && decide (es.length < 4000)) = true then putE (keyF f) (valF f) es else es
def addAll (es : List Ent) (l : List Fa) : List Ent := l.foldl plusE es
/-- The set of the valid ones among facts. -/
def ofL (l : List Fa) : List Ent := addAll [] l
/-- What a set holds. -/
def Facts (es : List Ent) : Prop := ∀ p ∈ es, ∃ f : Fa, okA f = true ∧ p = (keyF f, valF f)
def Good (es : List Ent) : Prop := Asc es ∧ Facts es ∧ es.length ≤ 4000

theorem keyF_length (f : Fa) : (keyF f).length = 32 := rfl
theorem good_nil : Good [] := ⟨List.Pairwise.nil, fun _ h => (by cases h), by simp⟩
theorem good_put {es : List Ent} (h : Good es) (f : Fa) (hf : okA f = true) (hl : (putE (keyF f) (valF f) es).length ≤ 4000) : Good (putE (keyF f) (valF f) es) :=
  ⟨putE_asc h.1, fun p hp => by
    rcases putE_mem hp with e | e
    · exact ⟨f, hf, e⟩
    · exact h.2.1 p e, hl⟩
theorem good_add {es : List Ent} (h : Good es) (f : Fa) : Good (plusE es f) := by
  unfold plusE
  split
  · rename_i hc
    simp only [Bool.and_eq_true, Bool.not_eq_true', decide_eq_true_eq] at hc
    refine good_put h f hc.1.1 ?_
    rw [putE_length h.1, hc.1.2]
    simp; omega
  · exact h
theorem good_all {es : List Ent} (h : Good es) (l : List Fa) : Good (addAll es l) := by
  unfold addAll
  induction l generalizing es with
  | nil => exact h
  | cons f l ih => rw [List.foldl_cons]; exact ih (good_add h f)
theorem good_of (l : List Fa) : Good (ofL l) := good_all good_nil l
theorem good_key {es : List Ent} (h : Good es) {p : Ent} (hp : p ∈ es) : p.1.length = 32 := by
  obtain ⟨f, _, rfl⟩ := h.2.1 p hp; exact keyF_length f
theorem plusE_length {es : List Ent} (h : Good es) (f : Fa) : (plusE es f).length ≤ es.length + 1 ∧ es.length ≤ (plusE es f).length := by
  unfold plusE
  split
  · rw [putE_length h.1]; split <;> omega
  · omega
theorem plusE_get {es : List Ent} (h : Good es) (f : Fa) (hl : es.length < 4000) (k : List UInt8) :
    getE (plusE es f) k = (getE es k).or (if okA f = true ∧ keyF f = k then some (valF f) else none) := by
  unfold plusE
  cases ho : okA f with
  | false => simp
  | true =>
    cases hh : hasE es (keyF f) with
    | true =>
      simp only [Bool.not_true, Bool.and_false, Bool.false_and, Bool.false_eq_true, if_false, true_and]
      split
      · rename_i e
        subst e
        unfold hasE at hh
        cases hg : getE es (keyF f) with
        | none => rw [hg] at hh; cases hh
        | some x => rfl
      · simp
    | false =>
      simp only [hl, decide_true, Bool.not_false, Bool.and_self, if_true, true_and]
      rw [putE_get h.1]
      split
      · rename_i e
        subst e
        unfold hasE at hh
        cases hg : getE es (keyF f) with
        | none => rfl
        | some x => rw [hg] at hh; cases hh
      · simp
/-- The first valid fact with an ID. -/
def firstF (l : List Fa) (k : List UInt8) : Option Fa := l.find? fun f => okA f && decide (keyF f = k)
theorem addAll_get {es : List Ent} (h : Good es) (l : List Fa) (hl : es.length + l.length ≤ 4000) (k : List UInt8) :
    getE (addAll es l) k = (getE es k).or ((firstF l k).map valF) := by
  unfold addAll
  induction l generalizing es with
  | nil => unfold firstF; simp
  | cons f l ih =>
    rw [List.length_cons] at hl
    rw [List.foldl_cons, ih (good_add h f) (by have := (plusE_length h f).1; omega), plusE_get h f (by omega)]
    unfold firstF
    rw [List.find?_cons]
    cases getE es k with
    | some x => rfl
    | none =>
      simp only [Option.none_or]
      by_cases hc : okA f = true ∧ keyF f = k
      · rw [if_pos hc]
        have : (okA f && decide (keyF f = k)) = true := by simp [hc.1, hc.2]
        rw [this]; rfl
      · rw [if_neg hc]
        have : (okA f && decide (keyF f = k)) = false := by
          cases ho : okA f
          · rfl
          · simp only [Bool.true_and, decide_eq_false_iff_not]; exact fun e => hc ⟨ho, e⟩
        rw [this]; rfl
theorem ofL_get (l : List Fa) (hl : l.length ≤ 4000) (k : List UInt8) : getE (ofL l) k = (firstF l k).map valF := by
  unfold ofL
  rw [addAll_get good_nil l (by simpa using hl)]
  simp [getE]
theorem firstF_some {l : List Fa} {k : List UInt8} {f : Fa} (h : firstF l k = some f) : f ∈ l ∧ okA f = true ∧ keyF f = k := by
  unfold firstF at h
  have h1 := List.mem_of_find?_eq_some h
  have h2 := List.find?_some h
  simp only [Bool.and_eq_true, decide_eq_true_eq] at h2
  exact ⟨h1, h2.1, h2.2⟩
theorem firstF_none {l : List Fa} {k : List UInt8} : firstF l k = none ↔ ∀ f ∈ l, okA f = true → keyF f ≠ k := by
  unfold firstF
  rw [List.find?_eq_none]
  constructor
  · intro h f hf ho e
    have := h f hf
    simp [ho, e] at this
  · intro h f hf hc
    simp only [Bool.and_eq_true, decide_eq_true_eq] at hc
    exact h f hf hc.1 hc.2
/-- Two valid facts with the same ID whose encodings differ. -/
def TwinsP (l : List Fa) : Prop := ∃ f ∈ l, ∃ g ∈ l, okA f = true ∧ okA g = true ∧ encV f.1 f.2.data.toList ≠ encV g.1 g.2.data.toList ∧ keyF f = keyF g
theorem val_of_enc {f g : Fa} (hf : okA f = true) (hg : okA g = true) (h : encV f.1 f.2.data.toList = encV g.1 g.2.data.toList) : valF f = valF g := by
  obtain ⟨h1, h2⟩ := encV_inj f.1 g.1 f.2.data.toList g.2.data.toList (okF_fits f.1 f.2.size f.2.data.toList rfl (of_decide_eq_true hf)) (okF_fits g.1 g.2.size g.2.data.toList rfl (of_decide_eq_true hg)) h
  have h3 : f.2 = g.2 := ByteArray.ext (Array.ext' h2)
  unfold valF
  show Value.agg (factC f.1 f.2) = Value.agg (factC g.1 g.2)
  unfold factC
  rw [h1 0 (by omega), h1 1 (by omega), h1 2 (by omega), h1 3 (by omega), h1 4 (by omega), h1 5 (by omega), h1 6 (by omega), h1 7 (by omega), h1 8 (by omega), h1 9 (by omega), h1 10 (by omega), h1 11 (by omega), h1 12 (by omega), h1 13 (by omega), h1 14 (by omega), h1 15 (by omega), h1 16 (by omega), h3]
theorem val_of_key {l : List Fa} (hT : ¬ TwinsP l) {f g : Fa} (mf : f ∈ l) (mg : g ∈ l) (hf : okA f = true) (hg : okA g = true) (h : keyF f = keyF g) : valF f = valF g := by
  refine val_of_enc hf hg ?_
  apply Classical.byContradiction
  intro hne
  exact hT ⟨f, mf, g, mg, hf, hg, hne, h⟩
/-- Without twins, what is first does not matter. -/
theorem first_same {l a b : List Fa} (hT : ¬ TwinsP l) (ha : ∀ f, f ∈ a → f ∈ l) (hb : ∀ f, f ∈ b → f ∈ l) (hab : ∀ f, f ∈ a ↔ f ∈ b) (k : List UInt8) : (firstF a k).map valF = (firstF b k).map valF := by
  cases h1 : firstF a k with
  | none =>
    have h2 : firstF b k = none := firstF_none.2 (fun f hf => firstF_none.1 h1 f ((hab f).2 hf))
    rw [h2]
  | some f =>
    obtain ⟨m1, o1, e1⟩ := firstF_some h1
    cases h2 : firstF b k with
    | none => exact absurd e1 (firstF_none.1 h2 f ((hab f).1 m1) o1)
    | some g =>
      obtain ⟨m2, o2, e2⟩ := firstF_some h2
      show some (valF f) = some (valF g)
      rw [val_of_key hT (ha f m1) (hb g m2) o1 o2 (by rw [e1, e2])]
theorem ofL_same {l a b : List Fa} (hT : ¬ TwinsP l) (ha : ∀ f, f ∈ a → f ∈ l) (hb : ∀ f, f ∈ b → f ∈ l) (hab : ∀ f, f ∈ a ↔ f ∈ b) (la : a.length ≤ 4000) (lb : b.length ≤ 4000) : ofL a = ofL b :=
  asc_ext (good_of a).1 (good_of b).1 (fun k => by rw [ofL_get a la, ofL_get b lb, first_same hT ha hb hab])

/-! ### Uniting -/
/-- The elements of ks, as t has them, are set in s. -/
def putAll (t : List Ent) (s : List Ent) (ks : List (List UInt8)) : List Ent := ks.foldl (fun es k => putE k ((getE t k).getD (.bool false)) es) s
theorem putAll_asc {t s : List Ent} (h : Asc s) (ks : List (List UInt8)) : Asc (putAll t s ks) := by
  unfold putAll
  induction ks generalizing s with
  | nil => exact h
  | cons k ks ih => rw [List.foldl_cons]; exact ih (putE_asc h)
theorem putAll_get {t s : List Ent} (h : Asc s) (ks : List (List UInt8)) (k : List UInt8) : getE (putAll t s ks) k = if k ∈ ks then some ((getE t k).getD (.bool false)) else getE s k := by
  unfold putAll
  induction ks generalizing s with
  | nil => simp
  | cons j ks ih =>
    rw [List.foldl_cons, ih (putE_asc h), putE_get h]
    by_cases hk : k ∈ ks
    · rw [if_pos hk, if_pos (List.mem_cons_of_mem _ hk)]
    · rw [if_neg hk]
      by_cases hj : j = k
      · subst hj; rw [if_pos rfl, if_pos (List.mem_cons_self ..)]
      · rw [if_neg hj, if_neg (by simp only [List.mem_cons, not_or]; exact ⟨Ne.symm hj, hk⟩)]
/-- The strings of ks that are not keys of s, each once, ascending. -/
def missE (s : List Ent) (ks : List (List UInt8)) : List Ent := ks.foldl (fun es k => if hasE s k = true then es else putE k (.bool true) es) []
theorem missE_aux {s : List Ent} (ks : List (List UInt8)) : ∀ es : List Ent, Asc es → Asc (ks.foldl (fun es k => if hasE s k = true then es else putE k (.bool true) es) es) ∧
    ∀ k, getE (ks.foldl (fun es k => if hasE s k = true then es else putE k (.bool true) es) es) k = if k ∈ ks ∧ hasE s k = false then some (.bool true) else getE es k := by
  induction ks with
  | nil => intro es h; exact ⟨h, fun k => by simp⟩
  | cons j ks ih =>
    intro es h
    rw [List.foldl_cons]
    cases hj : hasE s j with
    | true =>
      rw [if_pos rfl]
      refine ⟨(ih es h).1, fun k => ?_⟩
      rw [(ih es h).2 k]
      by_cases hk : k = j
      · subst hk; simp [hj]
      · simp [hk]
    | false =>
      rw [if_neg (by simp)]
      have h' := putE_asc (k := j) (x := .bool true) h
      refine ⟨(ih _ h').1, fun k => ?_⟩
      rw [(ih _ h').2 k, putE_get h]
      by_cases hk : j = k
      · subst hk; simp [hj]
      · rw [if_neg hk]; simp [Ne.symm hk]
theorem missE_asc (s : List Ent) (ks : List (List UInt8)) : Asc (missE s ks) := (missE_aux ks [] List.Pairwise.nil).1
theorem missE_get (s : List Ent) (ks : List (List UInt8)) (k : List UInt8) : getE (missE s ks) k = if k ∈ ks ∧ hasE s k = false then some (.bool true) else none := (missE_aux ks [] List.Pairwise.nil).2 k
def missK (s : List Ent) (ks : List (List UInt8)) : List (List UInt8) := (missE s ks).map (·.1)
theorem mem_keys {es : List Ent} (h : Asc es) (k : List UInt8) : k ∈ es.map (·.1) ↔ hasE es k = true := by
  unfold hasE
  constructor
  · intro hk
    obtain ⟨p, hp, rfl⟩ := List.mem_map.1 hk
    rw [mem_getE h (x := p.2) hp]; rfl
  · intro hk
    cases hg : getE es k with
    | none => rw [hg] at hk; cases hk
    | some x => exact List.mem_map.2 ⟨(k, x), getE_mem hg, rfl⟩
theorem mem_missK (s : List Ent) (ks : List (List UInt8)) (k : List UInt8) : k ∈ missK s ks ↔ k ∈ ks ∧ hasE s k = false := by
  unfold missK
  rw [mem_keys (missE_asc s ks)]
  unfold hasE
  rw [missE_get]
  split
  · rename_i h; simp only [Option.isSome_some, true_iff]; exact h
  · rename_i h; simp only [Option.isSome_none, Bool.false_eq_true, false_iff]; exact h
theorem missK_length_le (s : List Ent) (ks : List (List UInt8)) : (missK s ks).length ≤ ks.length := by
  have aux : ∀ (ks : List (List UInt8)) (es : List Ent), Asc es → (ks.foldl (fun es k => if hasE s k = true then es else putE k (.bool true) es) es).length ≤ es.length + ks.length := by
    intro ks
    induction ks with
    | nil => intro es _; simp
    | cons j ks ih =>
      intro es h
      rw [List.foldl_cons, List.length_cons]
      split
      · have := ih es h; omega
      · have := ih _ (putE_asc (k := j) (x := .bool true) h)
        rw [putE_length h] at this
        split at this <;> omega
  unfold missK missE
  rw [List.length_map]
  have := aux ks [] List.Pairwise.nil
  simpa using this
/-- What Union makes of s. -/
def uniE (s t : List Ent) : List Ent := putAll t s (missK s (t.map (·.1)))
theorem uniE_asc {s t : List Ent} (h : Asc s) : Asc (uniE s t) := putAll_asc h _
theorem uniE_get {s t : List Ent} (h : Asc s) (ht : Asc t) (k : List UInt8) : getE (uniE s t) k = (getE s k).or (getE t k) := by
  unfold uniE
  rw [putAll_get h]
  split
  · rename_i hk
    obtain ⟨h1, h2⟩ := (mem_missK _ _ _).1 hk
    unfold hasE at h2
    rw [mem_keys ht] at h1
    unfold hasE at h1
    cases hg : getE s k with
    | some x => rw [hg] at h2; cases h2
    | none =>
      cases hh : getE t k with
      | some y => rfl
      | none => rw [hh] at h1; cases h1
  · rename_i hk
    cases hg : getE s k with
    | some x => rfl
    | none =>
      cases hh : getE t k with
      | none => rfl
      | some y =>
        exact absurd ((mem_missK _ _ _).2 ⟨(mem_keys ht k).2 (by unfold hasE; rw [hh]; rfl), by unfold hasE; rw [hg]; rfl⟩) hk
theorem uniE_facts {s t : List Ent} (hs : Good s) (ht : Good t) : Facts (uniE s t) := by
  intro p hp
  have h1 := mem_getE (uniE_asc hs.1) (k := p.1) (x := p.2) hp
  rw [uniE_get hs.1 ht.1] at h1
  cases hg : getE s p.1 with
  | some x =>
    rw [hg] at h1
    obtain rfl : x = p.2 := by simpa using h1
    exact hs.2.1 _ (getE_mem hg)
  | none =>
    rw [hg] at h1
    exact ht.2.1 _ (getE_mem (by simpa using h1))
theorem putAll_length {t s : List Ent} (h : Asc s) (ks : List (List UInt8)) (hn : ks.Pairwise (· ≠ ·)) (hk : ∀ k ∈ ks, hasE s k = false) : (putAll t s ks).length = s.length + ks.length := by
  unfold putAll
  induction ks generalizing s with
  | nil => simp
  | cons j ks ih =>
    obtain ⟨h1, h2⟩ := List.pairwise_cons.1 hn
    rw [List.foldl_cons, ih (putE_asc h) h2 (fun k hk' => ?_), putE_length h, hk j (List.mem_cons_self ..)]
    · simp only [Bool.false_eq_true, if_false, List.length_cons]; omega
    · unfold hasE
      rw [putE_get h, if_neg (h1 k hk')]
      exact hk k (List.mem_cons_of_mem _ hk')
theorem keys_apart {es : List Ent} (h : Asc es) : (es.map (·.1)).Pairwise (· ≠ ·) := by
  rw [List.pairwise_map]
  refine h.imp ?_
  intro a b hab e
  rw [e, ls_irr] at hab; cases hab
theorem uniE_length {s t : List Ent} (h : Asc s) : (uniE s t).length = s.length + (missK s (t.map (·.1))).length :=
  putAll_length h _ (keys_apart (missE_asc _ _)) (fun _ hk => ((mem_missK _ _ _).1 hk).2)

end Go.Proofs.Ytngkfopdlkddnaa
