/- Plain mathematics of sets: lists of keys with values, ascending by their keys, and what a map that holds one reads as. -/
import Derived.Maps.Own
import Derived.Maps.Views
import Derived.Sort.KeysCollected
import Derived.Sort.Walk0
import Derived.Laws.Strings
namespace Go.Proofs.YtmhphmolbjjopaaDoor
open Go.RowKit Go.Maps

/-- An element: its key and its value. -/
abbrev Ent := List UInt8 × Value
/-- What a map with these entries reads as. -/
def dS (es : List Ent) : DataW Value := .map (es.map fun p => (Lit.string p.1, .held p.2))
/-- Every value reads as itself. -/
def valR (v : Value) : Option (DataW Value × List MemPlace) := some (.held v, [])
/-- The keys ascend. -/
def Asc (es : List Ent) : Prop := es.Pairwise (fun p q => Op.bytesLess p.1 q.1 = true)
/-- The value with a key. -/
def getE : List Ent → List UInt8 → Option Value
  | [], _ => none
  | p :: r, k => if p.1 = k then some p.2 else getE r k
def hasE (es : List Ent) (k : List UInt8) : Bool := (getE es k).isSome
/-- A key's value is set. -/
def putE (k : List UInt8) (x : Value) : List Ent → List Ent
  | [] => [(k, x)]
  | p :: r => if p.1 = k then (k, x) :: r else if Op.bytesLess k p.1 = true then (k, x) :: p :: r else p :: putE k x r

theorem ls_irr (x : List UInt8) : Op.bytesLess x x = false := by rw [bytesLess_eq]; simp
theorem ls_trans {x y z : List UInt8} (h : Op.bytesLess x y = true) (g : Op.bytesLess y z = true) : Op.bytesLess x z = true := by
  rw [bytesLess_eq, decide_eq_true_eq] at *; exact List.lt_trans h g
theorem before_eq : ∀ x y : List UInt8, bytesBefore x y = Op.bytesLess x y := by
  intro x
  induction x with
  | nil => intro y; cases y <;> rfl
  | cons a x ih => intro y; cases y with
    | nil => rfl
    | cons b y => unfold bytesBefore Op.bytesLess; rw [ih]
theorem ls_tri {x y : List UInt8} (h : x ≠ y) (g : ¬ Op.bytesLess x y = true) : Op.bytesLess y x = true := by
  rcases WideAt.bytes_total x y h with h1 | h1
  · rw [before_eq] at h1; exact absurd h1 g
  · rw [before_eq] at h1; exact h1

theorem getE_mem {es : List Ent} {k : List UInt8} {x : Value} (h : getE es k = some x) : (k, x) ∈ es := by
  induction es with
  | nil => cases h
  | cons p r ih =>
    unfold getE at h
    split at h
    · rename_i e; cases h; subst e; exact List.mem_cons_self ..
    · exact List.mem_cons_of_mem _ (ih h)
theorem getE_none {es : List Ent} {k : List UInt8} : getE es k = none ↔ ∀ p ∈ es, p.1 ≠ k := by
  induction es with
  | nil => simp [getE]
  | cons p r ih =>
    unfold getE
    split
    · rename_i e; simp [e]
    · rename_i e; simp [ih, e]
theorem asc_head {p : Ent} {r : List Ent} (h : Asc (p :: r)) : ∀ q ∈ r, Op.bytesLess p.1 q.1 = true := (List.pairwise_cons.1 h).1
theorem asc_tail {p : Ent} {r : List Ent} (h : Asc (p :: r)) : Asc r := (List.pairwise_cons.1 h).2
theorem mem_getE {es : List Ent} (h : Asc es) {k : List UInt8} {x : Value} (hm : (k, x) ∈ es) : getE es k = some x := by
  induction es with
  | nil => cases hm
  | cons p r ih =>
    unfold getE
    rcases List.mem_cons.1 hm with e | e
    · subst e; rw [if_pos rfl]
    · have := asc_head h _ e
      rw [if_neg (fun e' => by simp only at this; rw [e', ls_irr] at this; cases this)]
      exact ih (asc_tail h) e
/-- Two ascending lists with the same values at all keys are the same. -/
theorem asc_ext : ∀ {es fs : List Ent}, Asc es → Asc fs → (∀ k, getE es k = getE fs k) → es = fs := by
  intro es
  induction es with
  | nil =>
    intro fs _ _ h
    cases fs with
    | nil => rfl
    | cons q s => have := h q.1; simp [getE] at this
  | cons p r ih =>
    intro fs he hf h
    cases fs with
    | nil => have := h p.1; simp [getE] at this
    | cons q s =>
      have e1 : p.1 = q.1 := by
        apply Classical.byContradiction
        intro hne
        by_cases hl : Op.bytesLess p.1 q.1 = true
        · have h1 := h p.1
          rw [show getE (p :: r) p.1 = some p.2 by simp [getE]] at h1
          have := getE_mem h1.symm
          rcases List.mem_cons.1 this with e | e
          · exact hne (congrArg Prod.fst e)
          · have h2 := ls_trans hl (asc_head hf _ e)
            simp only at h2
            rw [ls_irr] at h2; cases h2
        · have hl' := ls_tri hne hl
          have h1 := h q.1
          rw [show getE (q :: s) q.1 = some q.2 by simp [getE]] at h1
          have := getE_mem h1
          rcases List.mem_cons.1 this with e | e
          · exact hne (congrArg Prod.fst e).symm
          · have h2 := ls_trans hl' (asc_head he _ e)
            simp only at h2
            rw [ls_irr] at h2; cases h2
      have e2 : p.2 = q.2 := by
        have h1 := h p.1
        simp only [getE, e1, if_true, Option.some.injEq] at h1
        exact h1
      have e3 : p = q := Prod.ext e1 e2
      subst e3
      rw [ih (asc_tail he) (asc_tail hf) (fun k => ?_)]
      have h1 := h k
      unfold getE at h1
      by_cases hk : p.1 = k
      · have n1 : getE r k = none := getE_none.2 (fun z hz e => by
          have := asc_head he z hz; rw [hk, ← e, ls_irr] at this; cases this)
        have n2 : getE s k = none := getE_none.2 (fun z hz e => by
          have := asc_head hf z hz; rw [hk, ← e, ls_irr] at this; cases this)
        rw [n1, n2]
      · rw [if_neg hk, if_neg hk] at h1; exact h1

theorem putE_mem {k : List UInt8} {x : Value} {es : List Ent} {p : Ent} (h : p ∈ putE k x es) : p = (k, x) ∨ p ∈ es := by
  induction es with
  | nil => left; simpa [putE] using h
  | cons q r ih =>
    unfold putE at h
    split at h
    · rcases List.mem_cons.1 h with e | e
      · exact .inl e
      · exact .inr (List.mem_cons_of_mem _ e)
    · split at h
      · rcases List.mem_cons.1 h with e | e
        · exact .inl e
        · exact .inr e
      · rcases List.mem_cons.1 h with e | e
        · exact .inr (by rw [e]; exact List.mem_cons_self ..)
        · rcases ih e with e | e
          · exact .inl e
          · exact .inr (List.mem_cons_of_mem _ e)
theorem putE_asc {k : List UInt8} {x : Value} {es : List Ent} (h : Asc es) : Asc (putE k x es) := by
  induction es with
  | nil => simp [putE, Asc]
  | cons q r ih =>
    unfold putE
    split
    · rename_i e
      exact List.pairwise_cons.2 ⟨fun z hz => by rw [← e]; exact asc_head h z hz, asc_tail h⟩
    · split
      · rename_i hl
        refine List.pairwise_cons.2 ⟨fun z hz => ?_, h⟩
        rcases List.mem_cons.1 hz with e | e
        · rw [e]; exact hl
        · exact ls_trans hl (asc_head h z e)
      · rename_i hne hl
        refine List.pairwise_cons.2 ⟨fun z hz => ?_, ih (asc_tail h)⟩
        rcases putE_mem hz with e | e
        · rw [e]; exact ls_tri (Ne.symm hne) hl
        · exact asc_head h z e
theorem putE_get {k : List UInt8} {x : Value} {es : List Ent} (h : Asc es) (k' : List UInt8) : getE (putE k x es) k' = if k = k' then some x else getE es k' := by
  induction es with
  | nil => unfold putE getE; rfl
  | cons q r ih =>
    unfold putE
    split
    · rename_i e
      unfold getE
      by_cases hk : k = k'
      · rw [if_pos hk, if_pos hk]
      · rw [if_neg hk, if_neg hk, if_neg (by rw [e]; exact hk)]
    · split
      · conv => lhs; unfold getE
      · rename_i hne hl
        unfold getE
        rw [ih (asc_tail h)]
        by_cases hq : q.1 = k'
        · rw [if_pos hq, if_pos hq, if_neg (fun e => hne (by rw [hq, e]))]
        · rw [if_neg hq, if_neg hq]
theorem putE_length {k : List UInt8} {x : Value} {es : List Ent} (h : Asc es) : (putE k x es).length = if hasE es k = true then es.length else es.length + 1 := by
  induction es with
  | nil => simp [putE, hasE, getE]
  | cons q r ih =>
    unfold putE hasE getE
    split
    · simp
    · split
      · rename_i hne hl
        have : getE r k = none := getE_none.2 (fun z hz e => by
          have h1 := ls_trans hl (asc_head h z hz); rw [e, ls_irr] at h1; cases h1)
        rw [this]; simp
      · have := ih (asc_tail h)
        unfold hasE at this
        rw [List.length_cons, this]
        split <;> simp
theorem has_dS (es : List Ent) (k : List UInt8) : Maps.has (dS es) (.string k) = hasE es k := by
  unfold dS hasE
  rw [Maps.has_eq]
  induction es with
  | nil => rfl
  | cons p r ih =>
    rw [List.map_cons, List.any_cons, ih]
    by_cases h : p.1 = k
    · rw [show getE (p :: r) k = some p.2 by rw [getE, if_pos h]]; simp [Lit.sameKey, h]
    · rw [show getE (p :: r) k = getE r k by rw [getE, if_neg h]]; simp [Lit.sameKey, h]
theorem at_dS (es : List Ent) (k : List UInt8) (z : Value) : (dS es).atKey (.string k) (.held z) = .held ((getE es k).getD z) := by
  unfold dS DataW.atKey
  simp only
  induction es with
  | nil => rfl
  | cons p r ih =>
    rw [List.map_cons, List.find?_cons]
    unfold getE
    by_cases h : p.1 = k
    · rw [if_pos h]; simp [Lit.sameKey, h]
    · rw [if_neg h]
      rw [show ((Lit.string p.1).sameKey (.string k)) = false by simp [Lit.sameKey, h]]
      exact ih
theorem size_dS (es : List Ent) : Maps.size (dS es) = es.length := by unfold dS; rw [Maps.size_eq, List.length_map]
theorem filter_asc {es : List Ent} {k : List UInt8} (h : ∀ p ∈ es, p.1 ≠ k) : (es.map fun p => ((Lit.string p.1, .held p.2) : Lit × DataW Value)).filter (fun p => !p.1.sameKey (.string k)) = es.map fun p => (Lit.string p.1, .held p.2) := by
  rw [List.filter_eq_self]
  intro p hp
  obtain ⟨q, hq, rfl⟩ := List.mem_map.1 hp
  have := h q hq
  simp [Lit.sameKey, this]
theorem insert_head {k : List UInt8} {x : Value} {es : List Ent} (h : ∀ p ∈ es, Op.bytesLess k p.1 = true) :
    DataW.insert (Lit.string k, DataW.held x) (es.map fun p => (Lit.string p.1, .held p.2)) = (Lit.string k, .held x) :: es.map fun p => (Lit.string p.1, .held p.2) := by
  cases es with
  | nil => rfl
  | cons p r =>
    rw [List.map_cons]
    unfold DataW.insert
    have := h p (List.mem_cons_self ..)
    simp [Lit.before, before_eq, this]
theorem put_dS {es : List Ent} (h : Asc es) (k : List UInt8) (x : Value) : (dS es).put (.string k) (.held x) = dS (putE k x es) := by
  unfold dS DataW.put
  simp only
  congr 1
  induction es with
  | nil => rfl
  | cons p r ih =>
    have hh := asc_head h
    unfold putE
    split
    · rename_i e
      rw [List.map_cons, List.filter_cons]
      have hn : ∀ q ∈ r, q.1 ≠ k := fun q hq e' => by have := hh q hq; rw [e, e', ls_irr] at this; cases this
      have e' : (!(Lit.string p.1).sameKey (.string k)) = false := by simp [Lit.sameKey, e]
      simp only [e', Bool.false_eq_true, if_false]
      rw [filter_asc hn, insert_head (fun q hq => by rw [← e]; exact hh q hq)]
      rfl
    · rename_i e
      rw [List.map_cons, List.filter_cons]
      have e' : (!(Lit.string p.1).sameKey (.string k)) = true := by simp [Lit.sameKey, e]
      simp only [e', if_true]
      split
      · rename_i hl
        have hn : ∀ q ∈ r, q.1 ≠ k := fun q hq e' => by have := ls_trans hl (hh q hq); rw [e', ls_irr] at this; cases this
        rw [filter_asc hn]
        conv => lhs; unfold DataW.insert
        simp [Lit.before, before_eq, hl]
      · rename_i hl
        conv => lhs; unfold DataW.insert
        have : (Lit.string k).before (Lit.string p.1) = false := by simp only [Lit.before, before_eq]; simpa using hl
        simp only [this, Bool.false_eq_true, if_false]
        rw [ih (asc_tail h)]
        rfl
theorem keys_dS (es : List Ent) : strKeys (dS es) = es.map (·.1) := by
  show (es.map fun p => ((Lit.string p.1, DataW.held p.2) : Lit × DataW Value)).map (fun p => strOf p.1) = es.map (·.1)
  rw [List.map_map]
  rfl
theorem sorted_dS {es : List Ent} (h : Asc es) {ss : List (List UInt8)} (hp : ss.Perm (strKeys (dS es))) : ss.mergeSort leB = es.map (·.1) := by
  rw [mergeSort_of_perm hp, keys_dS]
  refine List.mergeSort_of_pairwise ?_
  rw [List.pairwise_map]
  refine h.imp ?_
  intro a b hab
  rw [bytesLess_eq, decide_eq_true_eq] at hab
  unfold leB
  rw [decide_eq_true_eq]
  exact List.le_of_lt hab

end Go.Proofs.YtmhphmolbjjopaaDoor
