/- Base, as plain mathematics: of the facts with one key one prevails; sorted lists of those that do. -/
import Derived.KernelRfl
namespace Go.Proofs.Ytngkfopdlkddnaa.Bs
/-- What the order of facts must give. -/
structure Laws {F K : Type} (ok : F → Bool) (key : F → K) (pv : F → F → Bool) : Prop where
  some : ∀ {x y : F}, pv x y = true → ok x = true ∧ ok y = true ∧ key x = key y
  asym : ∀ {x y : F}, pv x y = true → pv y x = false
  total : ∀ {x y : F}, ok x = true → ok y = true → key x = key y → pv x y = false → pv y x = false → x = y
  trans : ∀ {x y z : F}, pv x y = true → pv y z = true → pv x z = true
section
variable {F K : Type} [DecidableEq K] {ok : F → Bool} {key : F → K} {pv : F → F → Bool}
/-- One more fact. -/
def stepB (ok : F → Bool) (key : F → K) (pv : F → F → Bool) (k : K) (acc : Option F) (f : F) : Option F :=
  if ok f = true ∧ key f = k then (match acc with | none => some f | some g => if pv f g = true then some f else some g) else acc
/-- The fact that prevails among those with the key k. -/
def best (ok : F → Bool) (key : F → K) (pv : F → F → Bool) (l : List F) (k : K) : Option F := l.foldl (stepB ok key pv k) none
theorem best_nil (k : K) : best ok key pv [] k = none := rfl
theorem best_snoc (l : List F) (f : F) (k : K) : best ok key pv (l ++ [f]) k = stepB ok key pv k (best ok key pv l k) f := by unfold best; rw [List.foldl_append]; rfl
theorem stepB_off {k : K} {acc : Option F} {f : F} (h : ¬ (ok f = true ∧ key f = k)) : stepB ok key pv k acc f = acc := if_neg h
theorem stepB_none {k : K} {f : F} (h : ok f = true ∧ key f = k) : stepB ok key pv k none f = some f := if_pos h
theorem stepB_some {k : K} {f g : F} (h : ok f = true ∧ key f = k) : stepB ok key pv k (some g) f = if pv f g = true then some f else some g := if_pos h
def Is (ok : F → Bool) (key : F → K) (pv : F → F → Bool) (l : List F) (k : K) : Option F → Prop
  | none => ∀ y ∈ l, ok y = true → key y ≠ k
  | some x => x ∈ l ∧ ok x = true ∧ key x = k ∧ ∀ y ∈ l, ok y = true → key y = k → pv y x = false
theorem is_step (H : Laws ok key pv) {l : List F} {k : K} {acc : Option F} (h : Is ok key pv l k acc) (f : F) : Is ok key pv (l ++ [f]) k (stepB ok key pv k acc f) := by
  by_cases hf : ok f = true ∧ key f = k
  · cases acc with
    | none =>
      rw [stepB_none hf]
      refine ⟨by simp, hf.1, hf.2, fun y hy h1 h2 => ?_⟩
      rcases List.mem_append.1 hy with hy | hy
      · exact absurd h2 (h y hy h1)
      · rw [List.mem_singleton.1 hy]
        cases e : pv f f
        · rfl
        · have := H.asym e; rw [e] at this; cases this
    | some g =>
      rw [stepB_some hf]
      obtain ⟨g1, g2, g3, g4⟩ := h
      by_cases hp : pv f g = true
      · rw [if_pos hp]
        refine ⟨by simp, hf.1, hf.2, fun y hy h1 h2 => ?_⟩
        rcases List.mem_append.1 hy with hy | hy
        · cases e : pv y f
          · rfl
          · have h3 := H.trans e hp
            rw [g4 y hy h1 h2] at h3; cases h3
        · rw [List.mem_singleton.1 hy]
          cases e : pv f f
          · rfl
          · have := H.asym e; rw [e] at this; cases this
      · rw [if_neg hp]
        refine ⟨by simp [g1], g2, g3, fun y hy h1 h2 => ?_⟩
        rcases List.mem_append.1 hy with hy | hy
        · exact g4 y hy h1 h2
        · rw [List.mem_singleton.1 hy]
          cases e : pv f g
          · rfl
          · exact absurd e hp
  · rw [stepB_off hf]
    cases acc with
    | none =>
      intro y hy h1 h2
      rcases List.mem_append.1 hy with hy | hy
      · exact h y hy h1 h2
      · rw [List.mem_singleton.1 hy] at h1 h2; exact hf ⟨h1, h2⟩
    | some g =>
      obtain ⟨g1, g2, g3, g4⟩ := h
      refine ⟨by simp [g1], g2, g3, fun y hy h1 h2 => ?_⟩
      rcases List.mem_append.1 hy with hy | hy
      · exact g4 y hy h1 h2
      · rw [List.mem_singleton.1 hy] at h1 h2; exact absurd ⟨h1, h2⟩ hf
theorem is_from (H : Laws ok key pv) (m : List F) : ∀ (l : List F) (k : K) (acc : Option F), Is ok key pv l k acc → Is ok key pv (l ++ m) k (m.foldl (stepB ok key pv k) acc) := by
  induction m with
  | nil => intro l k acc h; rw [List.append_nil]; exact h
  | cons f m ih =>
    intro l k acc h
    have := ih (l ++ [f]) k _ (is_step H h f)
    rwa [List.append_assoc] at this
theorem best_is (H : Laws ok key pv) (l : List F) (k : K) : Is ok key pv l k (best ok key pv l k) := by
  have h : Is ok key pv [] k none := fun y hy => by cases hy
  have h2 := is_from H l [] k none h
  rwa [List.nil_append] at h2
omit [DecidableEq K] in
theorem is_unique (H : Laws ok key pv) {l m : List F} (hlm : ∀ x, ok x = true → (x ∈ l ↔ x ∈ m)) {k : K} {a b : Option F} (ha : Is ok key pv l k a) (hb : Is ok key pv m k b) : a = b := by
  cases a with
  | none =>
    cases b with
    | none => rfl
    | some y => exact absurd hb.2.2.1 (ha y ((hlm y hb.2.1).2 hb.1) hb.2.1)
  | some x =>
    cases b with
    | none => exact absurd ha.2.2.1 (hb x ((hlm x ha.2.1).1 ha.1) ha.2.1)
    | some y =>
      have h1 := ha.2.2.2 y ((hlm y hb.2.1).2 hb.1) hb.2.1 hb.2.2.1
      have h2 := hb.2.2.2 x ((hlm x ha.2.1).1 ha.1) ha.2.1 ha.2.2.1
      rw [H.total ha.2.1 hb.2.1 (ha.2.2.1.trans hb.2.2.1.symm) h2 h1]
/-- Only the set of valid facts counts. -/
theorem best_same (H : Laws ok key pv) {l m : List F} (hlm : ∀ x, ok x = true → (x ∈ l ↔ x ∈ m)) (k : K) : best ok key pv l k = best ok key pv m k := is_unique H hlm (best_is H l k) (best_is H m k)
theorem best_some (H : Laws ok key pv) {l : List F} {k : K} {x : F} (h : best ok key pv l k = some x) : x ∈ l ∧ ok x = true ∧ key x = k ∧ ∀ y ∈ l, ok y = true → key y = k → pv y x = false := by
  have := best_is H l k; rw [h] at this; exact this
theorem best_none (H : Laws ok key pv) {l : List F} {k : K} (h : best ok key pv l k = none) : ∀ y ∈ l, ok y = true → key y ≠ k := by
  have := best_is H l k; rw [h] at this; exact this
theorem best_of_is (H : Laws ok key pv) {l : List F} {k : K} {a : Option F} (h : Is ok key pv l k a) : best ok key pv l k = a := is_unique H (fun _ _ => Iff.rfl) (best_is H l k) h
/-- The base of two lists together is the base of what is in the bases of both. -/
theorem best_join (H : Laws ok key pv) {l m p : List F} (hp : ∀ x, x ∈ p ↔ best ok key pv l (key x) = some x ∨ best ok key pv m (key x) = some x) (k : K) : best ok key pv p k = best ok key pv (l ++ m) k := by
  refine best_of_is H ?_
  have hm := best_is H (l ++ m) k
  cases e : best ok key pv (l ++ m) k with
  | none =>
    rw [e] at hm
    intro y hy h1 h2
    refine hm y ?_ h1 h2
    rcases (hp y).1 hy with h | h
    · exact List.mem_append.2 (.inl (best_some H h).1)
    · exact List.mem_append.2 (.inr (best_some H h).1)
  | some x =>
    rw [e] at hm
    obtain ⟨g1, g2, g3, g4⟩ := hm
    refine ⟨(hp x).2 ?_, g2, g3, fun y hy h1 h2 => ?_⟩
    · rw [g3]
      rcases List.mem_append.1 g1 with h | h
      · exact .inl (best_of_is H (a := some x) ⟨h, g2, g3, fun y hy => g4 y (List.mem_append.2 (.inl hy))⟩)
      · exact .inr (best_of_is H (a := some x) ⟨h, g2, g3, fun y hy => g4 y (List.mem_append.2 (.inr hy))⟩)
    · refine g4 y ?_ h1 h2
      rcases (hp y).1 hy with h | h
      · exact List.mem_append.2 (.inl (best_some H h).1)
      · exact List.mem_append.2 (.inr (best_some H h).1)

/-! ### Sorted lists -/
structure Order (lt : K → K → Bool) : Prop where
  irr : ∀ a, lt a a = false
  trans : ∀ {a b c}, lt a b = true → lt b c = true → lt a c = true
  tri : ∀ {a b}, a ≠ b → lt a b = false → lt b a = true
variable {lt : K → K → Bool}
def AscK (lt : K → K → Bool) (l : List K) : Prop := l.Pairwise (fun a b => lt a b = true)
def Asc (key : F → K) (lt : K → K → Bool) (l : List F) : Prop := l.Pairwise (fun a b => lt (key a) (key b) = true)
omit [DecidableEq K] in
theorem asc_ext (O : Order lt) : ∀ {l m : List F}, Asc key lt l → Asc key lt m → (∀ x, x ∈ l ↔ x ∈ m) → l = m := by
  intro l
  induction l with
  | nil =>
    intro m _ _ h
    cases m with
    | nil => rfl
    | cons y r => exact absurd ((h y).2 (by simp)) (by simp)
  | cons x l ih =>
    intro m hl hm h
    cases m with
    | nil => exact absurd ((h x).1 (by simp)) (by simp)
    | cons y r =>
      obtain ⟨l1, l2⟩ := List.pairwise_cons.1 hl
      obtain ⟨m1, m2⟩ := List.pairwise_cons.1 hm
      have hxy : x = y := by
        rcases List.mem_cons.1 ((h x).1 (by simp)) with e | e
        · exact e
        · rcases List.mem_cons.1 ((h y).2 (by simp)) with e2 | e2
          · exact e2.symm
          · have a1 := m1 x e
            have a2 := l1 y e2
            have a3 := O.trans a1 a2
            rw [O.irr] at a3; cases a3
      subst hxy
      rw [ih l2 m2]
      intro z
      constructor
      · intro hz
        rcases List.mem_cons.1 ((h z).1 (List.mem_cons_of_mem _ hz)) with e | e
        · have := l1 z hz; rw [e, O.irr] at this; cases this
        · exact e
      · intro hz
        rcases List.mem_cons.1 ((h z).2 (List.mem_cons_of_mem _ hz)) with e | e
        · have := m1 z hz; rw [e, O.irr] at this; cases this
        · exact e
/-- The reference's insertion. -/
def ins (key : F → K) (pv : F → F → Bool) (lt : K → K → Bool) (f : F) : List F → List F
  | [] => [f]
  | y :: r => if key y = key f then (if pv f y = true then f else y) :: r else if lt (key f) (key y) = true then f :: y :: r else y :: ins key pv lt f r
/-- The list L is sorted, and holds the facts of the class j that prevail in l. -/
def Lst (ok : F → Bool) (key : F → K) (pv : F → F → Bool) (lt : K → K → Bool) (cl : K → Prop) (l : List F) (L : List F) : Prop :=
  Asc key lt L ∧ ∀ x, x ∈ L ↔ best ok key pv l (key x) = some x ∧ cl (key x)
theorem lst_unique (O : Order lt) {cl : K → Prop} {l m L M : List F} (h : ∀ k, best ok key pv l k = best ok key pv m k) (hl : Lst ok key pv lt cl l L) (hm : Lst ok key pv lt cl m M) : L = M :=
  asc_ext O hl.1 hm.1 fun x => by rw [hl.2 x, hm.2 x, h]
theorem lst_nil (cl : K → Prop) : Lst ok key pv lt cl [] [] := ⟨List.Pairwise.nil, fun x => by simp [best_nil]⟩
theorem ins_mem (O : Order lt) (f : F) : ∀ {L : List F}, Asc key lt L → ∀ x, x ∈ ins key pv lt f L ↔ (x ∈ L ∧ key x ≠ key f) ∨ (x = f ∧ ∀ y ∈ L, key y = key f → pv f y = true) ∨ (x ∈ L ∧ key x = key f ∧ pv f x = false) := by
  intro L
  induction L with
  | nil => intro _ x; simp [ins]
  | cons y r ih =>
    intro hL x
    obtain ⟨h1, h2⟩ := List.pairwise_cons.1 hL
    have hne : ∀ z ∈ r, key z ≠ key y := fun z hz e => by have := h1 z hz; rw [e, O.irr] at this; cases this
    unfold ins
    by_cases hk : key y = key f
    · rw [if_pos hk]
      by_cases hp : pv f y = true
      · rw [if_pos hp]
        constructor
        · intro hx
          rcases List.mem_cons.1 hx with rfl | hx
          · refine .inr (.inl ⟨rfl, fun z hz e => ?_⟩)
            rcases List.mem_cons.1 hz with rfl | hz
            · exact hp
            · exact absurd (e.trans hk.symm) (hne z hz)
          · exact .inl ⟨List.mem_cons_of_mem _ hx, fun e => hne x hx (e.trans hk.symm)⟩
        · rintro (⟨h3, h4⟩ | ⟨rfl, h3⟩ | ⟨h3, h4, h5⟩)
          · rcases List.mem_cons.1 h3 with rfl | h3
            · exact absurd hk h4
            · exact List.mem_cons_of_mem _ h3
          · simp
          · rcases List.mem_cons.1 h3 with rfl | h3
            · rw [hp] at h5; cases h5
            · exact absurd (h4.trans hk.symm) (hne x h3)
      · rw [if_neg hp]
        constructor
        · intro hx
          rcases List.mem_cons.1 hx with rfl | hx
          · exact .inr (.inr ⟨by simp, hk, by simpa using hp⟩)
          · exact .inl ⟨List.mem_cons_of_mem _ hx, fun e => hne x hx (e.trans hk.symm)⟩
        · rintro (⟨h3, h4⟩ | ⟨rfl, h3⟩ | ⟨h3, h4, h5⟩)
          · exact h3
          · exact absurd (h3 y (by simp) hk) hp
          · exact h3
    · rw [if_neg hk]
      by_cases hlt : lt (key f) (key y) = true
      · rw [if_pos hlt]
        have hno : ∀ z ∈ y :: r, key z ≠ key f := fun z hz e => by
          rcases List.mem_cons.1 hz with rfl | hz
          · exact hk e
          · have := O.trans hlt (h1 z hz); rw [e, O.irr] at this; cases this
        constructor
        · intro hx
          rcases List.mem_cons.1 hx with rfl | hx
          · exact .inr (.inl ⟨rfl, fun z hz e => absurd e (hno z hz)⟩)
          · exact .inl ⟨hx, hno x hx⟩
        · rintro (⟨h3, h4⟩ | ⟨rfl, h3⟩ | ⟨h3, h4, h5⟩)
          · exact List.mem_cons_of_mem _ h3
          · simp
          · exact absurd h4 (hno x h3)
      · rw [if_neg hlt]
        rw [List.mem_cons, ih h2 x]
        constructor
        · rintro (rfl | ⟨h3, h4⟩ | ⟨rfl, h3⟩ | ⟨h3, h4, h5⟩)
          · exact .inl ⟨by simp, hk⟩
          · exact .inl ⟨List.mem_cons_of_mem _ h3, h4⟩
          · refine .inr (.inl ⟨rfl, fun z hz e => ?_⟩)
            rcases List.mem_cons.1 hz with rfl | hz
            · exact absurd e hk
            · exact h3 z hz e
          · exact .inr (.inr ⟨List.mem_cons_of_mem _ h3, h4, h5⟩)
        · rintro (⟨h3, h4⟩ | ⟨rfl, h3⟩ | ⟨h3, h4, h5⟩)
          · rcases List.mem_cons.1 h3 with rfl | h3
            · exact .inl rfl
            · exact .inr (.inl ⟨h3, h4⟩)
          · exact .inr (.inr (.inl ⟨rfl, fun z hz => h3 z (List.mem_cons_of_mem _ hz)⟩))
          · rcases List.mem_cons.1 h3 with rfl | h3
            · exact absurd h4 hk
            · exact .inr (.inr (.inr ⟨h3, h4, h5⟩))
theorem ins_low (f : F) (a : K) : ∀ {L : List F}, (∀ y ∈ L, lt a (key y) = true) → lt a (key f) = true → ∀ y ∈ ins key pv lt f L, lt a (key y) = true := by
  intro L
  induction L with
  | nil => intro _ hf y hy; simp only [ins, List.mem_singleton] at hy; rw [hy]; exact hf
  | cons z r ih =>
    intro h hf y hy
    unfold ins at hy
    by_cases hk : key z = key f
    · rw [if_pos hk] at hy
      rcases List.mem_cons.1 hy with rfl | hy
      · by_cases hp : pv f z = true
        · rw [if_pos hp]; exact hf
        · rw [if_neg hp]; exact h z (by simp)
      · exact h y (List.mem_cons_of_mem _ hy)
    · rw [if_neg hk] at hy
      by_cases hlt : lt (key f) (key z) = true
      · rw [if_pos hlt] at hy
        rcases List.mem_cons.1 hy with rfl | hy
        · exact hf
        · exact h y hy
      · rw [if_neg hlt] at hy
        rcases List.mem_cons.1 hy with rfl | hy
        · exact h y (by simp)
        · exact ih (fun y hy => h y (List.mem_cons_of_mem _ hy)) hf y hy
theorem ins_asc (O : Order lt) (f : F) : ∀ {L : List F}, Asc key lt L → Asc key lt (ins key pv lt f L) := by
  intro L
  induction L with
  | nil => intro _; exact List.pairwise_singleton _ _
  | cons y r ih =>
    intro hL
    obtain ⟨h1, h2⟩ := List.pairwise_cons.1 hL
    unfold ins
    by_cases hk : key y = key f
    · rw [if_pos hk]
      refine List.pairwise_cons.2 ⟨fun z hz => ?_, h2⟩
      by_cases hp : pv f y = true
      · rw [if_pos hp, ← hk]; exact h1 z hz
      · rw [if_neg hp]; exact h1 z hz
    · rw [if_neg hk]
      by_cases hlt : lt (key f) (key y) = true
      · rw [if_pos hlt]
        refine List.pairwise_cons.2 ⟨fun z hz => ?_, hL⟩
        rcases List.mem_cons.1 hz with rfl | hz
        · exact hlt
        · exact O.trans hlt (h1 z hz)
      · rw [if_neg hlt]
        refine List.pairwise_cons.2 ⟨?_, ih h2⟩
        exact ins_low f (key y) h1 (O.tri (fun e => hk e.symm) (by simpa using hlt))
theorem lst_off {cl : K → Prop} {l L : List F} (h : Lst ok key pv lt cl l L) {f : F} (hf : ¬ (ok f = true ∧ cl (key f))) : Lst ok key pv lt cl (l ++ [f]) L := by
  refine ⟨h.1, fun x => ?_⟩
  rw [h.2 x, best_snoc]
  by_cases hx : ok f = true ∧ key f = key x
  · have hc : ¬ cl (key x) := fun c => hf ⟨hx.1, hx.2 ▸ c⟩
    exact ⟨fun a => absurd a.2 hc, fun a => absurd a.2 hc⟩
  · rw [stepB_off hx]
theorem lst_ins (H : Laws ok key pv) (O : Order lt) {cl : K → Prop} {l L : List F} (h : Lst ok key pv lt cl l L) {f : F} (hf : ok f = true) (hc : cl (key f)) : Lst ok key pv lt cl (l ++ [f]) (ins key pv lt f L) := by
  refine ⟨ins_asc O f h.1, fun x => ?_⟩
  rw [ins_mem O f h.1, best_snoc]
  by_cases hk : key f = key x
  · have hx : ok f = true ∧ key f = key x := ⟨hf, hk⟩
    cases e : best ok key pv l (key x) with
    | none =>
      rw [stepB_none hx]
      have hno : ∀ y ∈ L, key y ≠ key f := fun y hy e2 => by
        have := ((h.2 y).1 hy).1; rw [e2, hk, e] at this; cases this
      constructor
      · rintro (⟨h1, h2⟩ | ⟨rfl, h1⟩ | ⟨h1, h2, h3⟩)
        · exact absurd hk.symm h2
        · exact ⟨rfl, hc⟩
        · exact absurd h2 (hno x h1)
      · rintro ⟨h1, h2⟩
        exact .inr (.inl ⟨(Option.some.inj h1).symm, fun y hy e2 => absurd e2 (hno y hy)⟩)
    | some g =>
      rw [stepB_some hx]
      have hg := best_some H e
      have hgL : g ∈ L := (h.2 g).2 ⟨by rw [hg.2.2.1]; exact e, by rw [hg.2.2.1, ← hk]; exact hc⟩
      have honly : ∀ y ∈ L, key y = key f → y = g := fun y hy e2 => by
        have := ((h.2 y).1 hy).1; rw [e2, hk, e] at this; exact (Option.some.inj this).symm
      by_cases hp : pv f g = true
      · rw [if_pos hp]
        constructor
        · rintro (⟨h1, h2⟩ | ⟨rfl, h1⟩ | ⟨h1, h2, h3⟩)
          · exact absurd hk.symm h2
          · exact ⟨rfl, hc⟩
          · rw [honly x h1 h2, hp] at h3; cases h3
        · rintro ⟨h1, h2⟩
          exact .inr (.inl ⟨(Option.some.inj h1).symm, fun y hy e2 => by rw [honly y hy e2]; exact hp⟩)
      · rw [if_neg hp]
        constructor
        · rintro (⟨h1, h2⟩ | ⟨rfl, h1⟩ | ⟨h1, h2, h3⟩)
          · exact absurd hk.symm h2
          · exact absurd (h1 g hgL (hg.2.2.1.trans hk.symm)) hp
          · exact ⟨by rw [honly x h1 h2], by rw [← hk]; exact hc⟩
        · rintro ⟨h1, h2⟩
          have := Option.some.inj h1
          subst this
          exact .inr (.inr ⟨hgL, hk.symm, by simpa using hp⟩)
  · rw [stepB_off (fun a => hk a.2), ← h.2 x]
    constructor
    · rintro (⟨h1, h2⟩ | ⟨rfl, h1⟩ | ⟨h1, h2, h3⟩)
      · exact h1
      · exact absurd rfl hk
      · exact h1
    · intro h1
      exact .inl ⟨h1, fun e => hk e.symm⟩
/-- What the program does: the keys in their order, each with the fact that prevails, those of one class kept. -/
theorem lst_keys (H : Laws ok key pv) {cl : K → Prop} [DecidablePred cl] {l : List F} {ks : List K} (ha : AscK lt ks) (hm : ∀ k, k ∈ ks ↔ best ok key pv l k ≠ none) :
    Lst ok key pv lt cl l ((ks.filter (fun k => decide (cl k))).filterMap (best ok key pv l)) := by
  constructor
  · unfold Asc
    rw [List.pairwise_filterMap]
    refine (ha.filter _).imp ?_
    intro a b hab x hx y hy
    rw [(best_some H hx).2.2.1, (best_some H hy).2.2.1]
    exact hab
  · intro x
    rw [List.mem_filterMap]
    constructor
    · rintro ⟨k, hk, hx⟩
      have := (best_some H hx).2.2.1
      rw [this]
      exact ⟨hx, by simpa using (List.mem_filter.1 hk).2⟩
    · rintro ⟨h1, h2⟩
      exact ⟨key x, List.mem_filter.2 ⟨(hm _).2 (by rw [h1]; simp), by simpa using h2⟩, h1⟩
end
end Go.Proofs.Ytngkfopdlkddnaa.Bs
