/- Contracts of the laws' pick and play, and of the reference's SameStrings and SameFacts; facts in slices. | Facts as data that are told apart by their cells; what prevails among them is as the plain mathematics wants it. | The library's contract of slices.SortFunc at this translation: tables of numbers, a field each. -/
import Derived.Test.YtngkfopdlkddnaaK17
import Derived.Test.YtngkfopdlkddnaaK08
import Derived.Test.YtngkfopdlkddnaaK03
import Derived.Test.YtngkfopdlkddnaaK00
import Derived.Test.YtngkfopdlkddnaaK13
import Derived.Test.YtngkfopdlkddnaaK16
import Derived.Shelf.SlSortCmp.NoneTotal
import Derived.Test.YtngkfopdlkddnaaProg
namespace Go.Proofs.Ytngkfopdlkddnaa
open Go.RowKit Go.Maps
theorem pick_calls (c n : Int) (w : World) (h0 : -9223372036854775808 ≤ c) (h1 : c ≤ 9223372036854775807) (h2 : 1 ≤ n) (h3 : n ≤ 9223372036854775807) :
    Calls Try.prog 9 #[.int .i64 c, .int .i64 n] w fun e w' => e = .returned (.int .i64 (pickF c n)) ∧ w = w' := by
  by_cases h : c < 0
  · have hf : pickF c n = (-(c + 1)) % n := by unfold pickF; rw [if_pos h]
    rw [hf]; clear hf
    go_enter Try.func9, Try.ntmps9
    go_wp2
    go_ret
    refine ⟨?_, rfl⟩
    have hp : (-(c + 1)) % n = -((c + 1).tmod n) := by rw [← Int.neg_tmod, Int.tmod_eq_emod_of_nonneg (by omega)]
    rw [hp]; rfl
  · have hf : pickF c n = c % n := by unfold pickF; rw [if_neg h]
    rw [hf]; clear hf
    go_enter Try.func9, Try.ntmps9
    go_wp2
    go_ret
    exact ⟨rfl, rfl⟩
/-! ### Facts in slices -/
/-- Where a slice's facts lie. -/
def FactsAt (w : World) (b o : Nat) (l : List Fa) : Prop := ∀ i, i < l.length → ∀ j x, (factC (l.getD i zeroA).1 (l.getD i zeroA).2)[j]? = some x → w.cell? ⟨b, o + i * 18 + j, none⟩ = some x
def FactsS (w : World) (A : Option Addr) (l : List Fa) : Prop := l = [] ∨ ∃ b o, A = some ⟨b, o, none⟩ ∧ FactsAt w b o l
theorem FactsAt.keep {w w' : World} {b o : Nat} {l : List Fa} (h : FactsAt w b o l) (hb : Below w.heap.size w w') : FactsAt w' b o l := fun i hi j x hx =>
  (hb.cell (p := ⟨b, o + i * 18 + j, none⟩) (lt_of_cell (h i hi j x hx))).trans (h i hi j x hx)
theorem FactsAt.lt {w : World} {b o : Nat} {l : List Fa} (h : FactsAt w b o l) (hl : 0 < l.length) : b < w.heap.size := lt_of_cell (h 0 hl 0 _ rfl)
theorem FactsAt.grown {w w' : World} {b o : Nat} {l : List Fa} {row : Option Nat} (h : FactsAt w b o l) (hg : w.grownBy w' row) (hr : row ≠ some b) : FactsAt w' b o l := fun i hi j x hx => by
  have h1 := h i hi j x hx
  rw [World.grownBy.cell_far hg ⟨b, o + i * 18 + j, none⟩ (lt_of_cell h1) (Ne.symm hr)]
  exact h1
theorem FactsS.keep {w w' : World} {A : Option Addr} {l : List Fa} (h : FactsS w A l) (hb : Below w.heap.size w w') : FactsS w' A l := by
  rcases h with h | ⟨b, o, e, h⟩
  · exact .inl h
  · exact .inr ⟨b, o, e, h.keep hb⟩
/-- A fact is loaded from within a slice. -/
theorem run_load_at (w : World) (b o : Nat) (v : Nat → Int) (t : ByteArray) (h : ∀ j x, (factC v t)[j]? = some x → w.cell? ⟨b, o + j, none⟩ = some x) : (loadVar 29 ⟨b, o, none⟩).run Try.prog w = .ok (.agg (factC v t)) w := by
  have hl : (loadCells ⟨b, o, none⟩ (factC v t).toList.length).run Try.prog w = .ok (factC v t).toList.toArray w :=
    run_loadCells_list (P := Try.prog) w ⟨b, o, none⟩ (factC v t).toList (fun j x hx => by
      have hadd : (⟨b, o, none⟩ : Addr).add j = ⟨b, o + j, none⟩ := by unfold Addr.add; split <;> simp_all
      rw [hadd]
      exact h j x (by rw [← Array.getElem?_toList]; exact hx))
  obtain ⟨i0, hi, hz0, hz1, hz2⟩ := info_parts infoF
  have hagg : (isAgg 29).run Try.prog w = .ok true w := Try.isAgg29 w
  have hsz : (sizeOf 29).run Try.prog w = .ok 18 w := Try.sizeOf29 w
  have hln : (factC v t).toList.length = 18 := rfl
  rw [hln] at hl
  unfold loadVar
  simp only [Sem.run_bind, hagg, hsz, Result.andThen_ok, if_true, hl, Sem.run_pure]
theorem wpList_load_at {ops : Array Oper} {rest : List Oper} {o : Oper} {a : Act} {w : World} {Q : Exit → Act → World → Prop} (hgd : o.guard = none) (x : Operand) (ho : o.op = .load 29 x)
    (b k : Nat) (hx : a.eval x = .pointer (some ⟨b, k, none⟩)) (v : Nat → Int) (t : ByteArray) (hg : ∀ j x, (factC v t)[j]? = some x → w.cell? ⟨b, k + j, none⟩ = some x)
    (h : wpList Try.prog ops Q rest (a.put o.dst (.agg (factC v t))) w) : wpList Try.prog ops Q (o :: rest) a w := by
  refine wpList_plain hgd fun K hK => ?_
  have hl := run_load_at w b k v t hg
  generalize factC v t = c at *
  unfold Oper.wp execOp
  simp only [ho, hx, Instr.loadAt, Instr.sureAddr, Sem.run_bind, Sem.run_pure, Result.andThen_ok, hl]
  exact hK _ _ h
theorem quiet_load_at {o : Oper} {a : Act} {K : Act → Prop} {w0 : World} (x : Operand) (ho : o.op = .load 29 x) (b k : Nat) (hx : a.eval x = .pointer (some ⟨b, k, none⟩)) (v : Nat → Int) (t : ByteArray)
    (hg : ∀ j x, (factC v t)[j]? = some x → w0.cell? ⟨b, k + j, none⟩ = some x) (h : K (a.put o.dst (.agg (factC v t)))) : o.quiet Try.prog a (fun w' => ∃ x : Wl w0, w' = x.1) K := by
  refine ⟨.agg (factC v t), ?_, h⟩
  rintro w ⟨y, rfl⟩
  have hl := run_load_at y.1 b k v t (fun j x hj => y.2.cell (hg j x hj))
  generalize factC v t = c at *
  unfold Oper.quietAt execOp
  simp only [ho, hx, Instr.loadAt, Instr.sureAddr, Sem.run_bind, Sem.run_pure, Result.andThen_ok, hl]
  exact ⟨rfl, rfl⟩

/-! ### SameFacts -/
/-- Two lists of facts are the same. -/
def eqL : List Fa → List Fa → Bool
  | [], [] => true
  | f :: l, g :: m => eqB f.1 g.1 f.2 g.2 && eqL l m
  | _, _ => false
theorem eqB_val (f g : Fa) : eqB f.1 g.1 f.2 g.2 = true ↔ valF f = valF g := by
  rw [eqB_iff]
  constructor
  · rintro ⟨h1, h2⟩
    have h3 : f.2 = g.2 := (toList_inj f.2 g.2).1 h2
    show Value.agg (factC f.1 f.2) = Value.agg (factC g.1 g.2)
    unfold factC
    rw [h1 0 (by omega), h1 1 (by omega), h1 2 (by omega), h1 3 (by omega), h1 4 (by omega), h1 5 (by omega), h1 6 (by omega), h1 7 (by omega), h1 8 (by omega), h1 9 (by omega), h1 10 (by omega), h1 11 (by omega), h1 12 (by omega), h1 13 (by omega), h1 14 (by omega), h1 15 (by omega), h1 16 (by omega), h3]
  · intro h
    have h1 : factC f.1 f.2 = factC g.1 g.2 := by injection h
    have hc : ∀ i : Nat, (factC f.1 f.2)[i]? = (factC g.1 g.2)[i]? := fun i => by rw [h1]
    refine ⟨fun i hi => ?_, ?_⟩
    · have h2 := hc i
      have hci : i = 0 ∨ i = 1 ∨ i = 2 ∨ i = 3 ∨ i = 4 ∨ i = 5 ∨ i = 6 ∨ i = 7 ∨ i = 8 ∨ i = 9 ∨ i = 10 ∨ i = 11 ∨ i = 12 ∨ i = 13 ∨ i = 14 ∨ i = 15 ∨ i = 16 := by omega
      rcases hci with rfl | rfl | rfl | rfl | rfl | rfl | rfl | rfl | rfl | rfl | rfl | rfl | rfl | rfl | rfl | rfl | rfl <;> simpa using h2
    · have h2 := hc 17
      have h3 : f.2 = g.2 := by simpa using h2
      rw [h3]
theorem eqL_iff (l m : List Fa) : eqL l m = true ↔ l.map valF = m.map valF := by
  induction l generalizing m with
  | nil => cases m <;> simp [eqL]
  | cons f l ih =>
    cases m with
    | nil => simp [eqL]
    | cons g m => unfold eqL; rw [Bool.and_eq_true, eqB_val, ih, List.map_cons, List.map_cons, List.cons.injEq]
theorem runNe (f g : Fa) (W : World) : (binOp .neq 29 (.agg (factC f.1 f.2)) (.agg (factC g.1 g.2))).run Try.prog W = .ok (.bool (!eqB f.1 g.1 f.2 g.2)) W := by
  rw [run_neq_struct, eqFact]
  rfl
theorem quiet_ne {o : Oper} {a : Act} {K : Act → Prop} {w0 : World} (x y : Operand) (t2 : TypeId) (ho : o.op = .binOp .neq 29 x y t2) (f g : Fa) (hx : a.eval x = .agg (factC f.1 f.2)) (hy : a.eval y = .agg (factC g.1 g.2))
    (c : Bool) (hc : eqB f.1 g.1 f.2 g.2 = c) (h : K (a.put o.dst (.bool (!c)))) : o.quiet Try.prog a (fun w' => ∃ x : Wl w0, w' = x.1) K := by
  refine ⟨.bool (!c), ?_, h⟩
  rintro w ⟨z, rfl⟩
  have hl := runNe f g z.1
  rw [hc] at hl
  generalize factC f.1 f.2 = c1 at *
  generalize factC g.1 g.2 = c2 at *
  have he : (eqGuard .neq 29 x y (.agg c1) (.agg c2)).run Try.prog z.1 = .ok () z.1 := by
    simp [eqGuard]
  unfold Oper.quietAt execOp
  simp only [ho, hx, hy, hl, he, Sem.run_bind, Sem.run_pure, Result.andThen_ok]
  exact ⟨rfl, rfl⟩
theorem eqL_snoc (x y : Fa) : ∀ l m : List Fa, l.length = m.length → eqL (l ++ [x]) (m ++ [y]) = (eqL l m && eqB x.1 y.1 x.2 y.2)
  | [], [], _ => by simp [eqL]
  | f :: l, g :: m, h => by
    show (eqB f.1 g.1 f.2 g.2 && eqL (l ++ [x]) (m ++ [y])) = (eqB f.1 g.1 f.2 g.2 && eqL l m && eqB x.1 y.1 x.2 y.2)
    rw [eqL_snoc x y l m (by simpa using h), Bool.and_assoc]
  | [], _ :: _, h => by simp at h
  | _ :: _, [], h => by simp at h
theorem eqL_succ (a b : List Fa) (k : Nat) (ha : k < a.length) (hb : k < b.length) (h : eqL (a.take k) (b.take k) = true) (e : eqB (a.getD k zeroA).1 (b.getD k zeroA).1 (a.getD k zeroA).2 (b.getD k zeroA).2 = true) : eqL (a.take (k + 1)) (b.take (k + 1)) = true := by
  rw [List.take_succ_eq_append_getElem ha, List.take_succ_eq_append_getElem hb, eqL_snoc _ _ _ _ (by simp; omega), h]
  rw [List.getD_eq_getElem?_getD, List.getD_eq_getElem?_getD, List.getElem?_eq_getElem ha, List.getElem?_eq_getElem hb] at e
  exact e
theorem eqL_bad (a b : List Fa) (k : Nat) (ha : k < a.length) (hb : k < b.length) (e : eqB (a.getD k zeroA).1 (b.getD k zeroA).1 (a.getD k zeroA).2 (b.getD k zeroA).2 = false) : eqL a b = false := by
  cases hh : eqL a b with
  | false => rfl
  | true =>
    have h1 := (eqL_iff a b).1 hh
    have h2 := congrArg (fun l => l[k]?) h1
    simp only [List.getElem?_map, List.getElem?_eq_getElem ha, List.getElem?_eq_getElem hb, Option.map_some, Option.some.injEq] at h2
    have h3 := (eqB_val _ _).2 h2
    rw [List.getD_eq_getElem?_getD, List.getD_eq_getElem?_getD, List.getElem?_eq_getElem ha, List.getElem?_eq_getElem hb] at e
    rw [show eqB a[k].1 b[k].1 a[k].2 b[k].2 = false from e] at h3
    cases h3
end Go.Proofs.Ytngkfopdlkddnaa
namespace Go.Proofs.Ytngkfopdlkddnaa
open Go Go.RowKit Go.Maps
abbrev Fx := {p : List Int × ByteArray // p.1.length = 17}
def faX (x : Fx) : Fa := (nthI x.1.1, x.1.2)
def nfX (f : Fa) : Fx := ⟨((List.range 17).map f.1, f.2), by simp⟩
theorem cells_cong {u v : Nat → Int} (t : ByteArray) (h : ∀ i, i < 17 → u i = v i) : factC u t = factC v t := by
  unfold factC
  rw [h 0 (by omega), h 1 (by omega), h 2 (by omega), h 3 (by omega), h 4 (by omega), h 5 (by omega), h 6 (by omega), h 7 (by omega), h 8 (by omega), h 9 (by omega), h 10 (by omega), h 11 (by omega), h 12 (by omega), h 13 (by omega), h 14 (by omega), h 15 (by omega), h 16 (by omega)]
theorem nf_cells (f : Fa) : factC (faX (nfX f)).1 (faX (nfX f)).2 = factC f.1 f.2 := cells_cong f.2 (fun i hi => nthI_range f.1 17 i hi)
theorem nf_val (f : Fa) : valF (faX (nfX f)) = valF f := by
  show Value.agg (factC _ _) = Value.agg (factC _ _)
  rw [nf_cells]
theorem valX_inj {x y : Fx} (h : valF (faX x) = valF (faX y)) : x = y := by
  have h2 := (eqB_iff _ _ _ _).1 ((eqB_val (faX x) (faX y)).2 h)
  obtain ⟨⟨l, t⟩, hl⟩ := x
  obtain ⟨⟨m, s⟩, hm⟩ := y
  have e1 : l = m := by
    apply List.ext_getElem (by rw [show l.length = 17 from hl, show m.length = 17 from hm])
    intro i i1 i2
    have h3 := h2.1 i (by rw [← show l.length = 17 from hl]; exact i1)
    simpa [faX, nthI, List.getElem?_eq_getElem i1, List.getElem?_eq_getElem i2] using h3
  have e2 : t = s := by
    have h3 := h2.2
    rw [ByteArray.toList_eq, ByteArray.toList_eq] at h3
    exact ByteArray.ext (Array.toList_inj.1 h3)
  subst e1; subst e2; rfl
def okX (x : Fx) : Bool := okA (faX x)
def keyX (x : Fx) : K3 := ((faX x).1 0, kyF (faX x).1)
def pvX (x y : Fx) : Bool := pvB (faX x).1 (faX x).2 (faX y).1 (faX y).2
theorem lawsX : Bs.Laws okX keyX pvX where
  some := fun {x y} h => by
    have := pv_some _ _ _ _ h
    have hk : (faX x).1 0 = (faX y).1 0 ∧ kyF (faX x).1 = kyF (faX y).1 := of_decide_eq_true this.2.2.1
    exact ⟨this.1, this.2.1, by unfold keyX; rw [hk.1, hk.2]⟩
  asym := fun h => pv_asym _ _ _ _ h
  total := fun {x y} hx hy hk h1 h2 => by
    have hk2 : kyB (faX x).1 (faX y).1 = true := by
      unfold keyX at hk
      exact decide_eq_true ⟨congrArg Prod.fst hk, congrArg Prod.snd hk⟩
    exact valX_inj ((eqB_val _ _).1 (pv_total _ _ _ _ hx hy hk2 h1 h2))
  trans := fun h k => pv_trans _ _ _ _ _ _ h k
def ltK (a b : K3) : Bool := decide (a.1 < b.1 ∨ a.1 = b.1 ∧ (a.2.1 < b.2.1 ∨ a.2.1 = b.2.1 ∧ a.2.2 < b.2.2))
theorem orderK : Bs.Order ltK where
  irr := fun a => decide_eq_false (by omega)
  trans := fun {a b c} h k => by
    have h := of_decide_eq_true h
    have k := of_decide_eq_true k
    exact decide_eq_true (by omega)
  tri := fun {a b} hne h => by
    have h := of_decide_eq_false h
    obtain ⟨a1, a2, a3⟩ := a
    obtain ⟨b1, b2, b3⟩ := b
    apply decide_eq_true
    by_cases e1 : a1 = b1
    · by_cases e2 : a2 = b2
      · by_cases e3 : a3 = b3
        · subst e1; subst e2; subst e3; exact absurd rfl hne
        · simp only at h ⊢; omega
      · simp only at h ⊢; omega
    · simp only at h ⊢; omega
/-- The numbers of a fact that is valid are small. -/
theorem ok_inK {x : Fx} (h : okX x = true) : InK (keyX x) := by
  have hf := (okT_fits h).1
  have hb : ∀ i, i < 17 → -9223372036854775808 ≤ (faX x).1 i ∧ (faX x).1 i ≤ 9223372036854775807 := fun i hi => by
    have := hf i hi
    unfold Fits at this
    omega
  unfold InK keyX kyF
  have hz : -9223372036854775808 ≤ (0 : Int) ∧ (0 : Int) ≤ 9223372036854775807 := by omega
  refine ⟨hb 0 (by omega), ?_⟩
  repeat' split
  all_goals exact ⟨by first | exact hb _ (by omega) | exact hz, by first | exact hb _ (by omega) | exact hz⟩
theorem kyF_cong {u v : Nat → Int} (h : ∀ i, i < 17 → u i = v i) : kyF u = kyF v := by
  unfold kyF
  rw [h 0 (by omega), h 6 (by omega), h 1 (by omega), h 9 (by omega), h 11 (by omega), h 5 (by omega), h 3 (by omega), h 15 (by omega), h 8 (by omega)]
theorem okT_cong {u v : Nat → Int} (t : ByteArray) (h : ∀ i, i < 17 → u i = v i) : okT u t = okT v t := decide_eq_decide.2 (okF_cong u v t.size h)
theorem nf_at (f : Fa) : ∀ i, i < 17 → (faX (nfX f)).1 i = f.1 i := fun i hi => nthI_range f.1 17 i hi
theorem ok_nf (f : Fa) : okX (nfX f) = okT f.1 f.2 := okT_cong f.2 (nf_at f)
theorem key_nf (f : Fa) : keyX (nfX f) = (f.1 0, kyF f.1) := by
  unfold keyX
  rw [nf_at f 0 (by omega), kyF_cong (nf_at f)]
theorem pv_nf (f : Fa) (y : Fx) : pvX (nfX f) y = pvB f.1 f.2 (faX y).1 (faX y).2 := by
  unfold pvX pvB kyB
  rw [nf_at f 0 (by omega), nf_at f 2 (by omega), kyF_cong (nf_at f), okT_cong _ (nf_at f), encV_congr (faX (nfX f)).1 f.1 _ (nf_at f)]
  rfl
theorem nf_self (x : Fx) : nfX (faX x) = x := valX_inj (nf_val (faX x))
end Go.Proofs.Ytngkfopdlkddnaa
namespace Go.Proofs.Ytngkfopdlkddnaa
open Go.Shelf
def laysSort_ren : Go.Shelf.Ren := ⟨fun | 6 => 67 | 15 => 64 | 14 => 86 | 28 => 82 | 29 => 83 | 20 => 94 | 21 => 95 | 22 => 96 | 23 => 97 | 24 => 98 | 25 => 99 | 26 => 100 | 27 => 101 | 46 => 103 | 47 => 90 | 48 => 91 | 49 => 104 | 50 => 105 | 57 => 106 | n => n, fun | 22 => 62 | 24 => 41 | 25 => 95 | 3 => 3 | 39 => 109 | 0 => 0 | 53 => 128 | 55 => 130 | 4 => 4 | 46 => 121 | 45 => 120 | 50 => 50 | 5 => 5 | 9 => 9 | 66 => 134 | 70 => 96 | 76 => 145 | 77 => 75 | n => n, fun | n => n⟩
theorem laysSort : Go.Proofs.SlLaysF0.n6 Try.prog laysSort_ren := {
  mixed := by kernel_rfl
  f6 := ⟨Try.f67.name, by decide, Try.func67.trans (congrArg some (by kernel_rfl))⟩
  f14 := ⟨Try.f86.name, by decide, Try.func86.trans (congrArg some (by kernel_rfl))⟩
  f15 := Try.func64.trans (congrArg some (by kernel_rfl))
  f20 := ⟨Try.f94.name, by decide, Try.func94.trans (congrArg some (by kernel_rfl))⟩
  f21 := ⟨Try.f95.name, by decide, Try.func95.trans (congrArg some (by kernel_rfl))⟩
  f22 := ⟨Try.f96.name, by decide, Try.func96.trans (congrArg some (by kernel_rfl))⟩
  f23 := ⟨Try.f97.name, by decide, Try.func97.trans (congrArg some (by kernel_rfl))⟩
  f24 := ⟨Try.f98.name, by decide, Try.func98.trans (congrArg some (by kernel_rfl))⟩
  f25 := ⟨Try.f99.name, by decide, Try.func99.trans (congrArg some (by kernel_rfl))⟩
  f26 := ⟨Try.f100.name, by decide, Try.func100.trans (congrArg some (by kernel_rfl))⟩
  f27 := ⟨Try.f101.name, by decide, Try.func101.trans (congrArg some (by kernel_rfl))⟩
  f28 := Try.func82.trans (congrArg some (by kernel_rfl))
  f29 := Try.func83.trans (congrArg some (by kernel_rfl))
  f46 := ⟨Try.f103.name, by decide, Try.func103.trans (congrArg some (by kernel_rfl))⟩
  f47 := Try.func90.trans (congrArg some (by kernel_rfl))
  f48 := Try.func91.trans (congrArg some (by kernel_rfl))
  f49 := ⟨Try.f104.name, by decide, Try.func104.trans (congrArg some (by kernel_rfl))⟩
  f50 := ⟨Try.f105.name, by decide, Try.func105.trans (congrArg some (by kernel_rfl))⟩
  f57 := ⟨Try.f106.name, by decide, Try.func106.trans (congrArg some (by kernel_rfl))⟩
  t0 := Try.underlying0
  a0 := Try.isAgg0
  z0 := Try.sizeOf0
  v0 := Try.zeroValue0
  t3 := Try.underlying3
  a3 := Try.isAgg3
  z3 := Try.sizeOf3
  v3 := Try.zeroValue3
  t4 := Try.underlying4
  a4 := Try.isAgg4
  z4 := Try.sizeOf4
  v4 := Try.zeroValue4
  t5 := Try.underlying5
  a5 := Try.isAgg5
  z5 := Try.sizeOf5
  v5 := Try.zeroValue5
  t9 := Try.underlying9
  a9 := Try.isAgg9
  z9 := Try.sizeOf9
  v9 := Try.zeroValue9
  t22 := Try.underlying62
  a22 := Try.isAgg62
  z22 := Try.sizeOf62
  v22 := Try.zeroValue62
  t25 := Try.underlying95
  a25 := Try.isAgg95
  z25 := Try.sizeOf95
  v25 := Try.zeroValue95
  t39 := Try.underlying109
  a39 := Try.isAgg109
  z39 := Try.sizeOf109
  v39 := Try.zeroValue109
  t45 := Try.underlying120
  a45 := Try.isAgg120
  z45 := Try.sizeOf120
  v45 := Try.zeroValue120
  t46 := Try.underlying121
  a46 := Try.isAgg121
  z46 := Try.sizeOf121
  v46 := Try.zeroValue121
  t50 := Try.underlying50
  a50 := Try.isAgg50
  z50 := Try.sizeOf50
  v50 := Try.zeroValue50
  t53 := Try.underlying128
  a53 := Try.isAgg128
  z53 := Try.sizeOf128
  v53 := Try.zeroValue128
  t55 := Try.underlying130
  a55 := Try.isAgg130
  z55 := Try.sizeOf130
  v55 := Try.zeroValue130
  t66 := Try.underlying134
  a66 := Try.isAgg134
  z66 := Try.sizeOf134
  v66 := Try.zeroValue134
  t70 := Try.underlying96
  a70 := Try.isAgg96
  z70 := Try.sizeOf96
  v70 := Try.zeroValue96
  t76 := Try.underlying145
  a76 := Try.isAgg145
  z76 := Try.sizeOf145
  v76 := Try.zeroValue145
  t77 := Try.underlying75
  a77 := Try.isAgg75
  z77 := Try.sizeOf75
  v77 := Try.zeroValue75 }

end Go.Proofs.Ytngkfopdlkddnaa
