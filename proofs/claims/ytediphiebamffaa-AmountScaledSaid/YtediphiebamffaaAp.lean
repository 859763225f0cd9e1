/- What Apportion answers, as a list; sums of weights; words for rows of one's own that are stored into. -/
import Derived.Test.YtediphiebamffaaRefB
import Derived.Test.YtediphiebamffaaSrt
namespace Go.Proofs.Ytediphiebamffaa
open Go.RowKit

/-! ### Weights -/
def wN (l : List Int) (i : Nat) : Nat := (l.getD i 0).toNat
def sumW (l : List Int) : Nat := sumTo (wN l) l.length
theorem sumTo_take (l : List Int) (k : Nat) (hk : k ≤ l.length) : sumTo (wN l) k = ((l.take k).map Int.toNat).sum := by
  induction k with
  | zero => rfl
  | succ k ih =>
    show sumTo (wN l) k + wN l k = _
    have hkl : k < l.length := by omega
    rw [ih (by omega), List.take_succ_eq_append_getElem hkl, List.map_append, List.sum_append]
    unfold wN
    rw [List.getD_eq_getElem?_getD, List.getElem?_eq_getElem hkl]
    simp
theorem sumW_eq (l : List Int) : sumW l = (l.map Int.toNat).sum := by
  unfold sumW
  rw [sumTo_take l _ (Nat.le_refl _), List.take_length]
theorem sumF_eq (M : Nat) (l : List Int) (s : Nat) (hs : s ≤ M) : sumF M l s = if (∀ x ∈ l, 0 ≤ x) ∧ s + sumW l ≤ M then some (s + sumW l) else none := by
  induction l generalizing s with
  | nil =>
    show some s = _
    have e : sumW [] = 0 := rfl
    rw [e, if_pos ⟨fun x hx => by simp at hx, by omega⟩]; rfl
  | cons x l ih =>
    have e : sumW (x :: l) = x.toNat + sumW l := by rw [sumW_eq, sumW_eq]; simp
    show (if 0 ≤ x ∧ s + x.toNat ≤ M then sumF M l (s + x.toNat) else none) = _
    rw [e]
    by_cases h : 0 ≤ x ∧ s + x.toNat ≤ M
    · rw [if_pos h, ih _ h.2]
      by_cases h2 : (∀ y ∈ l, 0 ≤ y) ∧ s + x.toNat + sumW l ≤ M
      · rw [if_pos h2, if_pos ⟨fun y hy => by rcases List.mem_cons.1 hy with h3 | h3; exact h3 ▸ h.1; exact h2.1 y h3, by omega⟩, Nat.add_assoc]
      · rw [if_neg h2, if_neg (fun h3 => h2 ⟨fun y hy => h3.1 y (List.mem_cons_of_mem _ hy), by omega⟩)]
    · rw [if_neg h, if_neg (fun h3 => h ⟨h3.1 x (by simp), by omega⟩)]
/-- Whether Apportion answers. -/
def apOk (t : Int) (l : List Int) : Prop := (0 ≤ t ∧ t ≤ 1000000000000000) ∧ (∀ x ∈ l, 0 ≤ x) ∧ 1 ≤ sumW l ∧ sumW l ≤ 1000000000000000
/-- The quotas rounded down, the remainders, what is left, the parts. -/
def qN (t : Int) (l : List Int) : Nat → Nat := quo t.toNat (sumW l) (wN l)
def rN (t : Int) (l : List Int) : Nat → Nat := rem t.toNat (sumW l) (wN l)
def lN (t : Int) (l : List Int) : Nat := left3 t.toNat (wN l) l.length
def pN (t : Int) (l : List Int) (i : Nat) : Nat := partOf (qN t l) (rN t l) l.length (lN t l) i
def listN (n : Nat) (f : Nat → Int) : List Int := (List.range n).map f
def apL (t : Int) (l : List Int) : List Int := listN l.length fun i => (pN t l i : Int)
theorem listN_length (n : Nat) (f : Nat → Int) : (listN n f).length = n := by unfold listN; simp
theorem listN_get (n : Nat) (f : Nat → Int) (i : Nat) (h : i < n) : (listN n f).getD i 0 = f i := by
  unfold listN
  rw [List.getD_eq_getElem?_getD, List.getElem?_map, List.getElem?_range h]
  rfl
theorem listN_snoc (n : Nat) (f : Nat → Int) : listN (n + 1) f = listN n f ++ [f n] := by
  unfold listN; rw [List.range_succ, List.map_append]; rfl
theorem listN_congr (n : Nat) (f g : Nat → Int) (h : ∀ i, i < n → f i = g i) : listN n f = listN n g := by
  unfold listN; exact List.map_congr_left fun i hi => h i (List.mem_range.1 hi)
theorem listN_get? (n : Nat) (f : Nat → Int) (i : Nat) : (listN n f)[i]? = if i < n then some (f i) else none := by
  unfold listN
  rw [List.getElem?_map]
  by_cases h : i < n
  · rw [if_pos h, List.getElem?_range h]; rfl
  · rw [if_neg h, List.getElem?_eq_none (by simp; omega)]; rfl
theorem listN_set (n : Nat) (f : Nat → Int) (b : Nat) (x : Int) (hb : b < n) : (listN n f).set b x = listN n fun i => if i = b then x else f i := by
  apply List.ext_getElem?
  intro i
  rw [List.getElem?_set, listN_length, listN_get?, listN_get?]
  by_cases e : b = i
  · subst e; rw [if_pos rfl, if_pos hb, if_pos hb, if_pos rfl]
  · rw [if_neg e]
    by_cases h : i < n
    · rw [if_pos h, if_pos h, if_neg (fun h => e h.symm)]
    · rw [if_neg h, if_neg h]
theorem apL_length (t : Int) (l : List Int) : (apL t l).length = l.length := listN_length _ _
theorem parts_of (t : Int) (l : List Int) (S : Nat → Bool) (hS : Init (rN t l) l.length S) (hs : size l.length S = lN t l) : (listN l.length fun i => ((qN t l i + if S i then 1 else 0 : Nat) : Int)) = apL t l := by
  refine listN_congr _ _ _ fun i hi => ?_
  have := part_rank t.toNat (wN l) l.length S hS hs i hi
  exact congrArg Int.ofNat this
theorem wN_le (l : List Int) (i : Nat) (hi : i < l.length) : wN l i ≤ sumW l := by
  have key : ∀ n, i < n → wN l i ≤ sumTo (wN l) n := by
    intro n
    induction n with
    | zero => intro h; omega
    | succ n ih =>
      intro h
      show _ ≤ sumTo (wN l) n + wN l n
      by_cases e : i = n
      · subst e; omega
      · have := ih (by omega); omega
  exact key _ hi
theorem qN_le (t : Int) (l : List Int) (i : Nat) (hi : i < l.length) (hW : 1 ≤ sumW l) : qN t l i ≤ t.toNat := by
  have := Nat.div_le_div_right (c := sumW l) (Nat.mul_le_mul_left t.toNat (wN_le l i hi))
  rwa [Nat.mul_div_cancel _ (by omega)] at this
theorem sumTo_mono (f : Nat → Nat) (k n : Nat) (h : k ≤ n) : sumTo f k ≤ sumTo f n := by
  induction n with
  | zero => obtain rfl : k = 0 := by omega
            exact Nat.le_refl _
  | succ n ih =>
    show _ ≤ sumTo f n + f n
    by_cases e : k = n + 1
    · subst e; exact Nat.le_refl _
    · have := ih (by omega); omega
theorem qSum_le (t : Int) (l : List Int) (k : Nat) (hk : k ≤ l.length) (hW : 1 ≤ sumW l) : sumTo (qN t l) k ≤ t.toNat :=
  Nat.le_trans (sumTo_mono _ _ _ hk) (quo_le t.toNat (wN l) l.length hW)
theorem wN_cast (l : List Int) (i : Nat) (hi : i < l.length) (h : ∀ x ∈ l, 0 ≤ x) : l.getD i 0 = ((wN l i : Nat) : Int) := by
  unfold wN
  have : 0 ≤ l.getD i 0 := h _ (by rw [List.getD_eq_getElem?_getD, List.getElem?_eq_getElem hi]; exact List.getElem_mem hi)
  omega
theorem rN_lt (t : Int) (l : List Int) (i : Nat) (hW : 1 ≤ sumW l) : rN t l i < sumW l := Nat.mod_lt _ (by omega)

/-! ### Rows that are stored into -/
/-- Block g holds these integers, and none of its cells is frozen. -/
def OwnAt (w : World) (g : Nat) (l : List Int) : Prop := ∀ i, i < l.length → w.cell? ⟨g, i, none⟩ = some (.int .i64 (l.getD i 0)) ∧ w.frozen? ⟨g, i, none⟩ = false
theorem OwnAt.ints {w : World} {g : Nat} {l : List Int} (h : OwnAt w g l) : IntsAt w g 0 l := fun i hi => by rw [Nat.zero_add]; exact (h i hi).1
theorem OwnAt.below {w w' : World} {g : Nat} {l : List Int} (h : OwnAt w g l) (hb : Below w.heap.size w w') : OwnAt w' g l := fun i hi => by
  have hlt := lt_of_cell (h i hi).1
  exact ⟨(hb.cell (p := ⟨g, i, none⟩) hlt).trans (h i hi).1, (hb.frozen (p := ⟨g, i, none⟩) hlt).trans (h i hi).2⟩
theorem OwnAt.drewN {w : World} {g : Nat} {l : List Int} (h : OwnAt w g l) (n : Nat) : OwnAt (w.drewN n) g l := h
theorem OwnAt.alloc {w : World} {g : Nat} {l : List Int} (h : OwnAt w g l) (o : Obj) : OwnAt (w.alloc o) g l := h.below ((Below.refl _ _).alloc (Nat.le_refl _) _)
theorem RowI.own {w : World} {base : Nat} {v : Value} {l : List Int} (h : RowI w base v l) (hn : 1 ≤ l.length) : ∃ g cap, v = .slice (some ⟨g, 0, none⟩) l.length cap ∧ l.length ≤ cap ∧ base ≤ g ∧ OwnAt w g l := by
  have h0 := h
  obtain ⟨h1, h2⟩ := h
  rcases h2 with ⟨rfl, h⟩ | ⟨g, cap, cur, rfl, hb2, hg, hc, rest⟩
  · omega
  · exact ⟨g, cap, rfl, hc, hb2, fun i hi => ⟨by rw [h0.cellAt i (by omega), cellsI_get l i hi], h0.frozenAt i⟩⟩
theorem append_one (base : Nat) (w : World) {v : Value} {l : List Int} (hv : RowI w base v l) (x : Int) (hb : base ≤ w.heap.size) (hlen : l.length + 1 ≤ 1000000) (ty : TypeId) :
    ∃ v' w', (Builtin.append_ #[29, 29] ty #[v, .slice (some ⟨w.heap.size, 0, none⟩) 1 1]).run Try.prog (w.alloc (.cells #[.int .i64 x] 3)) = .ok v' w' ∧ RowI w' base v' (l ++ [x]) ∧ (w.alloc (.cells #[.int .i64 x] 3)).grownBy w' v.ownBlock ∧ (v'.ownBlock = v.ownBlock ∨ v'.ownBlock = some (w.alloc (.cells #[.int .i64 x] 3)).heap.size) := by
  obtain ⟨i0, hi, hz0, hz1, hz2⟩ := info_parts (show (Try.prog.info? 3).map (fun i => (i.zero, i.size, i.bytes)) = some (some (.int .i64 0), 1, 8) from by kernel_rfl)
  have hs := ints_one w x 3
  obtain ⟨v', w', hr, ho, hg, _, hn⟩ := run_append_own_at (w.alloc (.cells #[.int .i64 x] 3)) base 29 ty 3 i0 (.int .i64 0) 1 8 Try.underlying29 hi hz0 hz1 hz2 rfl (by decide) v l.length (cellsI l) (hv.alloc _) ⟨w.heap.size, 0, none⟩ 1 1 (cellsI [x]) rfl (by
    intro j u hu
    have hj : j < [x].length := by
      have := (List.getElem?_eq_some_iff.1 hu).1
      rwa [cellsI_length] at this
    have e : Addr.add ⟨w.heap.size, 0, none⟩ j = ⟨w.heap.size, 0 + j, none⟩ := by unfold Addr.add; split <;> simp_all
    rw [e, hs j hj, ← hu, cellsI_get [x] j hj]) (by
    intro u hu
    obtain ⟨y, _, rfl⟩ := List.mem_map.1 hu
    rfl) (by unfold maxLen; omega) (by omega) (by simp; omega)
  refine ⟨v', w', hr, ?_, hg, hn⟩
  unfold RowI
  rw [List.length_append, show cellsI (l ++ [x]) = cellsI l ++ cellsI [x] from by unfold cellsI; rw [List.map_append]]
  exact ho
theorem RowI.kept {w w' : World} {base : Nat} {v : Value} {l : List Int} {row : Option Nat} (h : RowI w base v l) (hg : w.grownBy w' row) (hne : ∀ b, v.ownBlock = some b → row ≠ some b) : RowI w' base v l :=
  World.ownsRow.kept h hg (by
    cases hv : v.ownBlock with
    | none => exact Or.inl rfl
    | some b => exact Or.inr (fun h2 => hne b hv h2.symm))
theorem OwnAt.set {w : World} {g : Nat} {l : List Int} (h : OwnAt w g l) (b : Nat) (x : Int) : OwnAt (w.setCell ⟨g, b, none⟩ (.int .i64 x)) g (l.set b x) := fun i hi => by
  rw [List.length_set] at hi
  rw [World.frozen?_setCell]
  refine ⟨?_, (h i hi).2⟩
  by_cases e : b = i
  · subst e
    rw [World.cell?_setCell_same _ _ _ (h b hi).1, List.getD_eq_getElem?_getD, List.getElem?_set, if_pos rfl, if_pos hi]; rfl
  · rw [World.cell?_setCell_other _ _ _ _ (by intro h2; exact e (by injection h2)), (h i hi).1, List.getD_eq_getElem?_getD, List.getD_eq_getElem?_getD, List.getElem?_set, if_neg e]
theorem OwnAt.other {w : World} {g g2 : Nat} {l : List Int} (h : OwnAt w g l) (hne : g2 ≠ g) (b : Nat) (x : Value) : OwnAt (w.setCell ⟨g2, b, none⟩ x) g l := fun i hi => by
  rw [World.frozen?_setCell, World.cell?_setCell_other _ _ _ _ (by intro h2; exact hne (by injection h2))]
  exact h i hi
end Go.Proofs.Ytediphiebamffaa
