/- Contracts of the laws' pick and play, and of the reference's SameStrings and SameFacts; facts in slices. -/
import Derived.Test.YtnndnjnpkjpkpaaGreatDoorPar
import Derived.Test.YtnndnjnpkjpkpaaGreatDoorPln
namespace Go.Proofs.YtnndnjnpkjpkpaaGreatDoor
open Go.RowKit Go.Maps

set_option maxRecDepth 100000 in
set_option maxHeartbeats 4000000 in
theorem same_main (a b : List Bs) (ba oa ca bb ob cb : Nat) (w : World) (hl : a.length = b.length) (ha : StrsAt w ba oa a) (hb : StrsAt w bb ob b) (hn : a.length ≤ 1000000) :
    Calls Tryz.prog 15 #[.slice (some ⟨ba, oa, none⟩) a.length ca, .slice (some ⟨bb, ob, none⟩) b.length cb] w fun e W' => e = .returned (.bool (decide (a = b))) ∧ Below w.heap.size w W' := by
  have Ha := Lib.hid ha
  have Hb := Lib.hid hb
  have Hl := Lib.hid hl
  rw [← hl]
  clear ha hb hl
  go_enter Tryz.func15, Tryz.ntmps15
  go_wp2_with fail
  go_loopw [5] (fun iv wr => ∃ k : Nat, k ≤ a.length ∧ iv = .int .i64 k ∧ Hid (a.take k = b.take k) ∧ Below w.heap.size w wr) (fun iv _ => a.length - (intOf iv).toNat)
  case atStart => exact ⟨0, by omega, rfl, Lib.hid rfl, Below.refl _ _⟩
  case round =>
    obtain ⟨k, hk, rfl, Hp, bR⟩ := hrel
    by_cases hlt : k < a.length
    · have c1 : wr.cell? ⟨ba, oa + k, none⟩ = _ := (Ha.out.keep bR) k hlt
      have c2 : wr.cell? ⟨bb, ob + k, none⟩ = _ := (Hb.out.keep bR) k (by rw [← Hl.out]; exact hlt)
      have k1 : (k : Int) < (a.length : Int) := by omega
      have k0 : 0 ≤ (k : Int) := by omega
      by_cases he : a.getD k [] = b.getD k []
      · have Hn := Lib.hid (same_next a b k hlt (by rw [← Hl.out]; exact hlt) Hp.out he)
        rw [he] at c1
        clear he
        generalize b.getD k [] = x at *
        go_wp2_with fail
        go_quiet (fail)
        all_goals
          go_wp2_with fail
          go_roundw
          case rel => exact ⟨k + 1, by omega, by go_num, Hn, below_drewN bR nq⟩
          case measure => simp [intOf]; omega
      · have hne := bytes_inj _ _ he
        have Hne := Lib.hid (show ¬ a = b from fun e => he (by rw [e]))
        clear he
        generalize a.getD k [] = x at *
        generalize b.getD k [] = y at *
        generalize (⟨x.toArray⟩ : ByteArray) = X at *
        generalize (⟨y.toArray⟩ : ByteArray) = Y at *
        have hd : (X.toList == Y.toList) = false := by
          rw [beq_eq_false_iff_ne, ByteArray.toList_eq, ByteArray.toList_eq]
          intro e
          exact hne (ByteArray.ext (Array.ext' e))
        clear hne
        go_wp2_with fail
        go_quiet (fail)
        go_wp2_with fail
        go_ret
        exact ⟨by rw [decide_eq_false Hne.out]; rfl, below_drewN bR nq⟩
    · have k1 : (a.length : Int) ≤ (k : Int) := by omega
      have He := Lib.hid (show a = b by
        have h := Hp.out
        have h2 := Hl.out
        rw [List.take_of_length_le (by omega), List.take_of_length_le (by omega)] at h
        exact h)
      clear hlt
      go_wp2_with fail
      go_ret
      exact ⟨by rw [decide_eq_true He.out]; rfl, bR⟩
theorem same_nil (A B : Option Addr) (ca cb : Nat) (w : World) :
    Calls Tryz.prog 15 #[.slice A 0 ca, .slice B 0 cb] w fun e W' => e = .returned (.bool true) ∧ Below w.heap.size w W' := by
  go_enter Tryz.func15, Tryz.ntmps15
  go_wp2_with fail
  go_loop [5] (fun iv => iv = .int .i64 0) (fun _ => 0)
  case atStart => exact rfl
  case round =>
    obtain rfl := hrel
    go_wp2_with fail
    go_ret
    exact ⟨rfl, Below.refl _ _⟩
theorem same_eq (l : List Bs) (A B : Option Addr) (ca cb : Nat) (w : World) (hA : Strs w A l) (hB : Strs w B l) (hl : l.length ≤ 1000000) :
    Calls Tryz.prog 15 #[.slice A l.length ca, .slice B l.length cb] w fun e W' => e = .returned (.bool true) ∧ Below w.heap.size w W' := by
  by_cases h0 : l = []
  · subst h0; exact same_nil A B ca cb w
  · rcases hA with h | ⟨ba, oa, rfl, hA⟩
    · exact absurd h h0
    rcases hB with h | ⟨bb, ob, rfl, hB⟩
    · exact absurd h h0
    refine (same_main l l ba oa ca bb ob cb w rfl hA hB hl).mono ?_
    rintro e W' ⟨rfl, b⟩
    exact ⟨by rw [decide_eq_true rfl], b⟩
theorem same_len (a b : List Bs) (A B : Option Addr) (ca cb : Nat) (w : World) (hl : a.length ≠ b.length) :
    Calls Tryz.prog 15 #[.slice A a.length ca, .slice B b.length cb] w fun e W' => e = .returned (.bool false) ∧ Below w.heap.size w W' := by
  have q1 : ((a.length : Int) != (b.length : Int)) = true := by rw [bne_iff_ne]; omega
  generalize a.length = n at *
  generalize b.length = m at *
  have q2 : ((n : Int) == (m : Int)) = false := by rw [beq_eq_false_iff_ne]; omega
  go_enter Tryz.func15, Tryz.ntmps15
  go_wp2_with fail
  go_ret
  exact ⟨rfl, Below.refl _ _⟩
theorem same_any (a b : List Bs) (A B : Option Addr) (ca cb : Nat) (w : World) (hA : Strs w A a) (hB : Strs w B b) (hl : a.length ≤ 1000000) :
    Calls Tryz.prog 15 #[.slice A a.length ca, .slice B b.length cb] w fun e W' => e = .returned (.bool (decide (a = b))) ∧ Below w.heap.size w W' := by
  by_cases he : a = b
  · subst he
    rw [decide_eq_true rfl]
    exact same_eq a A B ca cb w hA hB hl
  · by_cases hlen : a.length = b.length
    · have h0 : a ≠ [] := by
        rintro rfl
        exact he (List.length_eq_zero_iff.1 hlen.symm).symm
      have h1 : b ≠ [] := by
        rintro rfl
        exact he (List.length_eq_zero_iff.1 hlen)
      rcases hA with h | ⟨ba, oa, rfl, hA⟩
      · exact absurd h h0
      rcases hB with h | ⟨bb, ob, rfl, hB⟩
      · exact absurd h h1
      exact same_main a b ba oa ca bb ob cb w hlen hA hB hl
    · rw [decide_eq_false he]
      exact same_len a b A B ca cb w hlen
theorem pick_calls (c n : Int) (w : World) (h0 : -9223372036854775808 ≤ c) (h1 : c ≤ 9223372036854775807) (h2 : 1 ≤ n) (h3 : n ≤ 9223372036854775807) :
    Calls Tryz.prog 7 #[.int .i64 c, .int .i64 n] w fun e w' => e = .returned (.int .i64 (pickF c n)) ∧ w = w' := by
  by_cases h : c < 0
  · have hf : pickF c n = (-(c + 1)) % n := by unfold pickF; rw [if_pos h]
    rw [hf]; clear hf
    go_enter Tryz.func7, Tryz.ntmps7
    go_wp2
    go_ret
    refine ⟨?_, rfl⟩
    have hp : (-(c + 1)) % n = -((c + 1).tmod n) := by rw [← Int.neg_tmod, Int.tmod_eq_emod_of_nonneg (by omega)]
    rw [hp]; rfl
  · have hf : pickF c n = c % n := by unfold pickF; rw [if_neg h]
    rw [hf]; clear hf
    go_enter Tryz.func7, Tryz.ntmps7
    go_wp2
    go_ret
    exact ⟨rfl, rfl⟩
/-! ### play -/
/-- A play. -/
def playA (n : Int) : Fa := (playV n, ⟨#[]⟩)
theorem play_cells (n : Int) : factC (playV n) ⟨#[]⟩ = #[.int .i64 1, .int .i64 (n + 1), .int .i64 1, .int .i64 0, .int .i64 n, .int .i64 1, .int .i64 1, .int .i64 1, .int .i64 0, .int .i64 0, .int .i64 0, .int .i64 0, .int .i64 0, .int .i64 30000, .int .i64 0, .int .i64 0, .int .i64 0, .string ⟨#[]⟩] := rfl
set_option maxRecDepth 100000 in
theorem play_calls (n : Int) (w : World) (h0 : 0 ≤ n) (h1 : n < 1000000) :
    Calls Tryz.prog 28 #[.int .i64 n] w fun e W' => e = .returned (.agg (factC (playV n) ⟨#[]⟩)) ∧ Below w.heap.size w W' := by
  have hp : pickF n 1000000 = n := by unfold pickF; rw [if_neg (by omega)]; omega
  have HP := Lib.hid (fun W => pick_calls n 1000000 W (by omega) (by omega) (by omega) (by omega))
  rw [hp] at HP
  clear hp
  have hone := factC_one (playV n) ⟨#[]⟩
  have h2 : 1 + n = n + 1 := by omega
  go_enter Tryz.func28, Tryz.ntmps28
  go_upto_region 1 with (fail)
  obtain ⟨W0, hW0, f0, b0⟩ := one_row w (factC (fun _ => 0) ⟨#[]⟩) 40
  rw [hW0]
  clear hW0
  have F0 := Lib.hid f0
  clear f0
  go_wp2_with fail
  refine (HP.out _).mono ?_
  rintro e W1 ⟨rfl, rfl⟩
  go_wp2_with (refine wpList_store_row rfl 40 _ _ rfl w.heap.size (factC (playV n) ⟨#[]⟩) rfl rfl 40 _ F0.out (hiC _ _) rfl hone ?_)
  refine bodyPost_ret (v := .agg (factC (playV n) ⟨#[]⟩)) ?_ rfl ?_
  · exact results_cell_row rfl _ _ w.heap.size 40 _ (0, 0) _ rfl (setRow_heap W0 w.heap.size _ _ 40 (0, 0) F0.out) Tryz.underlying40 rfl (hiC _ _)
  · exact ⟨rfl, below_setRow' b0 _ _ (Nat.le_refl _)⟩

/-! ### Facts in slices -/
/-- Where a slice's facts lie. -/
def FactsAt (w : World) (b o : Nat) (l : List Fa) : Prop := ∀ i, i < l.length → ∀ j x, (factC (l.getD i zeroA).1 (l.getD i zeroA).2)[j]? = some x → w.cell? ⟨b, o + i * 18 + j, none⟩ = some x
def FactsS (w : World) (A : Option Addr) (l : List Fa) : Prop := l = [] ∨ ∃ b o, A = some ⟨b, o, none⟩ ∧ FactsAt w b o l
theorem FactsAt.keep {w w' : World} {b o : Nat} {l : List Fa} (h : FactsAt w b o l) (hb : Below w.heap.size w w') : FactsAt w' b o l := fun i hi j x hx =>
  (hb.cell (p := ⟨b, o + i * 18 + j, none⟩) (lt_of_cell (h i hi j x hx))).trans (h i hi j x hx)
theorem FactsAt.lt {w : World} {b o : Nat} {l : List Fa} (h : FactsAt w b o l) (hl : 0 < l.length) : b < w.heap.size := lt_of_cell (h 0 hl 0 _ rfl)
theorem FactsAt.grown {w w' : World} {b o : Nat} {l : List Fa} {row : Option Nat} (h : FactsAt w b o l) (hg : w.grownBy w' row) (hr : row ≠ some b) : FactsAt w' b o l := fun i hi j x hx => by
  have h1 := h i hi j x hx
  rw [World.grownBy.cell_far hg ⟨b, o + i * 18 + j, none⟩ (lt_of_cell h1) (Ne.symm hr)]
  exact h1
theorem FactsS.keep {w w' : World} {A : Option Addr} {l : List Fa} (h : FactsS w A l) (hb : Below w.heap.size w w') : FactsS w' A l := by
  rcases h with h | ⟨b, o, e, h⟩
  · exact .inl h
  · exact .inr ⟨b, o, e, h.keep hb⟩
/-- A fact is loaded from within a slice. -/
theorem run_load_at (w : World) (b o : Nat) (v : Nat → Int) (t : ByteArray) (h : ∀ j x, (factC v t)[j]? = some x → w.cell? ⟨b, o + j, none⟩ = some x) : (loadVar 40 ⟨b, o, none⟩).run Tryz.prog w = .ok (.agg (factC v t)) w := by
  have hl : (loadCells ⟨b, o, none⟩ (factC v t).toList.length).run Tryz.prog w = .ok (factC v t).toList.toArray w :=
    run_loadCells_list (P := Tryz.prog) w ⟨b, o, none⟩ (factC v t).toList (fun j x hx => by
      have hadd : (⟨b, o, none⟩ : Addr).add j = ⟨b, o + j, none⟩ := by unfold Addr.add; split <;> simp_all
      rw [hadd]
      exact h j x (by rw [← Array.getElem?_toList]; exact hx))
  obtain ⟨i0, hi, hz0, hz1, hz2⟩ := info_parts infoF
  have hagg : (isAgg 40).run Tryz.prog w = .ok true w := Tryz.isAgg40 w
  have hsz : (sizeOf 40).run Tryz.prog w = .ok 18 w := Tryz.sizeOf40 w
  have hln : (factC v t).toList.length = 18 := rfl
  rw [hln] at hl
  unfold loadVar
  simp only [Sem.run_bind, hagg, hsz, Result.andThen_ok, if_true, hl, Sem.run_pure]
theorem wpList_load_at {ops : Array Oper} {rest : List Oper} {o : Oper} {a : Act} {w : World} {Q : Exit → Act → World → Prop} (hgd : o.guard = none) (x : Operand) (ho : o.op = .load 40 x)
    (b k : Nat) (hx : a.eval x = .pointer (some ⟨b, k, none⟩)) (v : Nat → Int) (t : ByteArray) (hg : ∀ j x, (factC v t)[j]? = some x → w.cell? ⟨b, k + j, none⟩ = some x)
    (h : wpList Tryz.prog ops Q rest (a.put o.dst (.agg (factC v t))) w) : wpList Tryz.prog ops Q (o :: rest) a w := by
  refine wpList_plain hgd fun K hK => ?_
  have hl := run_load_at w b k v t hg
  generalize factC v t = c at *
  unfold Oper.wp execOp
  simp only [ho, hx, Instr.loadAt, Instr.sureAddr, Sem.run_bind, Sem.run_pure, Result.andThen_ok, hl]
  exact hK _ _ h
theorem quiet_load_at {o : Oper} {a : Act} {K : Act → Prop} {w0 : World} (x : Operand) (ho : o.op = .load 40 x) (b k : Nat) (hx : a.eval x = .pointer (some ⟨b, k, none⟩)) (v : Nat → Int) (t : ByteArray)
    (hg : ∀ j x, (factC v t)[j]? = some x → w0.cell? ⟨b, k + j, none⟩ = some x) (h : K (a.put o.dst (.agg (factC v t)))) : o.quiet Tryz.prog a (fun w' => ∃ x : Wl w0, w' = x.1) K := by
  refine ⟨.agg (factC v t), ?_, h⟩
  rintro w ⟨y, rfl⟩
  have hl := run_load_at y.1 b k v t (fun j x hj => y.2.cell (hg j x hj))
  generalize factC v t = c at *
  unfold Oper.quietAt execOp
  simp only [ho, hx, Instr.loadAt, Instr.sureAddr, Sem.run_bind, Sem.run_pure, Result.andThen_ok, hl]
  exact ⟨rfl, rfl⟩

/-! ### SameFacts -/
/-- Two lists of facts are the same. -/
def eqL : List Fa → List Fa → Bool
  | [], [] => true
  | f :: l, g :: m => eqB f.1 g.1 f.2 g.2 && eqL l m
  | _, _ => false
theorem eqB_val (f g : Fa) : eqB f.1 g.1 f.2 g.2 = true ↔ valF f = valF g := by
  rw [eqB_iff]
  constructor
  · rintro ⟨h1, h2⟩
    have h3 : f.2 = g.2 := (toList_inj f.2 g.2).1 h2
    show Value.agg (factC f.1 f.2) = Value.agg (factC g.1 g.2)
    unfold factC
    rw [h1 0 (by omega), h1 1 (by omega), h1 2 (by omega), h1 3 (by omega), h1 4 (by omega), h1 5 (by omega), h1 6 (by omega), h1 7 (by omega), h1 8 (by omega), h1 9 (by omega), h1 10 (by omega), h1 11 (by omega), h1 12 (by omega), h1 13 (by omega), h1 14 (by omega), h1 15 (by omega), h1 16 (by omega), h3]
  · intro h
    have h1 : factC f.1 f.2 = factC g.1 g.2 := by injection h
    have hc : ∀ i : Nat, (factC f.1 f.2)[i]? = (factC g.1 g.2)[i]? := fun i => by rw [h1]
    refine ⟨fun i hi => ?_, ?_⟩
    · have h2 := hc i
      have hci : i = 0 ∨ i = 1 ∨ i = 2 ∨ i = 3 ∨ i = 4 ∨ i = 5 ∨ i = 6 ∨ i = 7 ∨ i = 8 ∨ i = 9 ∨ i = 10 ∨ i = 11 ∨ i = 12 ∨ i = 13 ∨ i = 14 ∨ i = 15 ∨ i = 16 := by omega
      rcases hci with rfl | rfl | rfl | rfl | rfl | rfl | rfl | rfl | rfl | rfl | rfl | rfl | rfl | rfl | rfl | rfl | rfl <;> simpa using h2
    · have h2 := hc 17
      have h3 : f.2 = g.2 := by simpa using h2
      rw [h3]
theorem eqL_iff (l m : List Fa) : eqL l m = true ↔ l.map valF = m.map valF := by
  induction l generalizing m with
  | nil => cases m <;> simp [eqL]
  | cons f l ih =>
    cases m with
    | nil => simp [eqL]
    | cons g m => unfold eqL; rw [Bool.and_eq_true, eqB_val, ih, List.map_cons, List.map_cons, List.cons.injEq]
theorem runNe (f g : Fa) (W : World) : (binOp .neq 40 (.agg (factC f.1 f.2)) (.agg (factC g.1 g.2))).run Tryz.prog W = .ok (.bool (!eqB f.1 g.1 f.2 g.2)) W := by
  rw [run_neq_struct, eqFact]
  rfl
theorem quiet_ne {o : Oper} {a : Act} {K : Act → Prop} {w0 : World} (x y : Operand) (t2 : TypeId) (ho : o.op = .binOp .neq 40 x y t2) (f g : Fa) (hx : a.eval x = .agg (factC f.1 f.2)) (hy : a.eval y = .agg (factC g.1 g.2))
    (c : Bool) (hc : eqB f.1 g.1 f.2 g.2 = c) (h : K (a.put o.dst (.bool (!c)))) : o.quiet Tryz.prog a (fun w' => ∃ x : Wl w0, w' = x.1) K := by
  refine ⟨.bool (!c), ?_, h⟩
  rintro w ⟨z, rfl⟩
  have hl := runNe f g z.1
  rw [hc] at hl
  generalize factC f.1 f.2 = c1 at *
  generalize factC g.1 g.2 = c2 at *
  have he : (eqGuard .neq 40 x y (.agg c1) (.agg c2)).run Tryz.prog z.1 = .ok () z.1 := by
    simp [eqGuard]
  unfold Oper.quietAt execOp
  simp only [ho, hx, hy, hl, he, Sem.run_bind, Sem.run_pure, Result.andThen_ok]
  exact ⟨rfl, rfl⟩
theorem eqL_snoc (x y : Fa) : ∀ l m : List Fa, l.length = m.length → eqL (l ++ [x]) (m ++ [y]) = (eqL l m && eqB x.1 y.1 x.2 y.2)
  | [], [], _ => by simp [eqL]
  | f :: l, g :: m, h => by
    show (eqB f.1 g.1 f.2 g.2 && eqL (l ++ [x]) (m ++ [y])) = (eqB f.1 g.1 f.2 g.2 && eqL l m && eqB x.1 y.1 x.2 y.2)
    rw [eqL_snoc x y l m (by simpa using h), Bool.and_assoc]
  | [], _ :: _, h => by simp at h
  | _ :: _, [], h => by simp at h
theorem eqL_succ (a b : List Fa) (k : Nat) (ha : k < a.length) (hb : k < b.length) (h : eqL (a.take k) (b.take k) = true) (e : eqB (a.getD k zeroA).1 (b.getD k zeroA).1 (a.getD k zeroA).2 (b.getD k zeroA).2 = true) : eqL (a.take (k + 1)) (b.take (k + 1)) = true := by
  rw [List.take_succ_eq_append_getElem ha, List.take_succ_eq_append_getElem hb, eqL_snoc _ _ _ _ (by simp; omega), h]
  rw [List.getD_eq_getElem?_getD, List.getD_eq_getElem?_getD, List.getElem?_eq_getElem ha, List.getElem?_eq_getElem hb] at e
  exact e
theorem eqL_bad (a b : List Fa) (k : Nat) (ha : k < a.length) (hb : k < b.length) (e : eqB (a.getD k zeroA).1 (b.getD k zeroA).1 (a.getD k zeroA).2 (b.getD k zeroA).2 = false) : eqL a b = false := by
  cases hh : eqL a b with
  | false => rfl
  | true =>
    have h1 := (eqL_iff a b).1 hh
    have h2 := congrArg (fun l => l[k]?) h1
    simp only [List.getElem?_map, List.getElem?_eq_getElem ha, List.getElem?_eq_getElem hb, Option.map_some, Option.some.injEq] at h2
    have h3 := (eqB_val _ _).2 h2
    rw [List.getD_eq_getElem?_getD, List.getD_eq_getElem?_getD, List.getElem?_eq_getElem ha, List.getElem?_eq_getElem hb] at e
    rw [show eqB a[k].1 b[k].1 a[k].2 b[k].2 = false from e] at h3
    cases h3
set_option maxRecDepth 100000 in
set_option maxHeartbeats 4000000 in
theorem sameF_main (a b : List Fa) (ba oa ca bb ob cb : Nat) (w : World) (hl : a.length = b.length) (ha : FactsAt w ba oa a) (hb : FactsAt w bb ob b) (_hn : a.length ≤ 1000000) :
    Calls Tryz.prog 17 #[.slice (some ⟨ba, oa, none⟩) a.length ca, .slice (some ⟨bb, ob, none⟩) b.length cb] w fun e W' => e = .returned (.bool (eqL a b)) ∧ Below w.heap.size w W' := by
  have Ha := Lib.hid ha
  have Hb := Lib.hid hb
  have Hle := Lib.hid hl
  rw [← hl]
  clear ha hb hl
  go_enter Tryz.func17, Tryz.ntmps17
  go_wp2_with fail
  go_loopw [5] (fun iv wr => ∃ k : Nat, k ≤ a.length ∧ iv = .int .i64 k ∧ Hid (eqL (a.take k) (b.take k) = true) ∧ Hid (Below w.heap.size w wr)) (fun iv _ => a.length - (intOf iv).toNat)
  case atStart => exact ⟨0, by omega, rfl, Lib.hid rfl, Lib.hid (Below.refl _ _)⟩
  case round =>
    obtain ⟨k, hk, rfl, Hp, bR⟩ := hrel
    by_cases hlt : k < a.length
    · have HA : Hid (∀ j x, (factC (a.getD k zeroA).1 (a.getD k zeroA).2)[j]? = some x → wr.cell? ⟨ba, oa + k * 18 + j, none⟩ = some x) := Lib.hid (Ha.out.keep bR.out k hlt)
      have HB : Hid (∀ j x, (factC (b.getD k zeroA).1 (b.getD k zeroA).2)[j]? = some x → wr.cell? ⟨bb, ob + k * 18 + j, none⟩ = some x) := Lib.hid (Hb.out.keep bR.out k (by rw [← Hle.out]; exact hlt))
      have k1 : (k : Int) < (a.length : Int) := by omega
      have k0 : 0 ≤ (k : Int) := by omega
      have Hsucc := Lib.hid (eqL_succ a b k hlt (by rw [← Hle.out]; exact hlt) Hp.out)
      have Hbad := Lib.hid (fun h => eqL_bad a b k hlt (by rw [← Hle.out]; exact hlt) h)
      generalize a.getD k zeroA = f at *
      generalize b.getD k zeroA = g at *
      cases hc : eqB f.1 g.1 f.2 g.2 with
      | true =>
        have HE := Lib.hid hc
        clear hc
        go_wp2_with fail
        refine wp_region_hl wr (Hl.refl _) (by kernel_rfl) (by kernel_rfl) ?_
        repeat (first
          | go_big_quiet_skip
          | (go_big_quiet_want; refine quiet_load_at _ rfl _ _ rfl _ _ HA.out ?_; simp only [Act.put, List.setIfInBounds_toArray, List.set_cons_zero, List.set_cons_succ]; go_big_quiet_on)
          | (go_big_quiet_want; refine quiet_load_at _ rfl _ _ rfl _ _ HB.out ?_; simp only [Act.put, List.setIfInBounds_toArray, List.set_cons_zero, List.set_cons_succ]; go_big_quiet_on)
          | (go_big_quiet_want; refine quiet_ne _ _ _ rfl f g rfl rfl true HE.out ?_; simp only [Act.put, List.setIfInBounds_toArray, List.set_cons_zero, List.set_cons_succ]; go_big_quiet_on)
          | (go_big_quiet_want; go_big_quiet_op; go_big_quiet_on))
        refine wpQuiet_nil ?_
        intro W1 h1
        have B1 := Lib.hid (bR.out.trans (Below.mono h1 bR.out.size))
        clear h1
        go_wp2_with fail
        go_roundw
        case rel => exact ⟨k + 1, by omega, by go_num, Lib.hid (Hsucc.out HE.out), B1⟩
        case measure => simp [intOf]; omega
      | false =>
        have HE := Lib.hid hc
        have HR := Lib.hid (Hbad.out hc)
        clear hc Hsucc Hbad
        go_wp2_with fail
        refine wp_region_hl wr (Hl.refl _) (by kernel_rfl) (by kernel_rfl) ?_
        repeat (first
          | go_big_quiet_skip
          | (go_big_quiet_want; refine quiet_load_at _ rfl _ _ rfl _ _ HA.out ?_; simp only [Act.put, List.setIfInBounds_toArray, List.set_cons_zero, List.set_cons_succ]; go_big_quiet_on)
          | (go_big_quiet_want; refine quiet_load_at _ rfl _ _ rfl _ _ HB.out ?_; simp only [Act.put, List.setIfInBounds_toArray, List.set_cons_zero, List.set_cons_succ]; go_big_quiet_on)
          | (go_big_quiet_want; refine quiet_ne _ _ _ rfl f g rfl rfl false HE.out ?_; simp only [Act.put, List.setIfInBounds_toArray, List.set_cons_zero, List.set_cons_succ]; go_big_quiet_on)
          | (go_big_quiet_want; go_big_quiet_op; go_big_quiet_on))
        refine wpQuiet_nil ?_
        intro W1 h1
        have B1 := Lib.hid (bR.out.trans (Below.mono h1 bR.out.size))
        clear h1
        go_wp2_with fail
        go_ret
        exact ⟨by rw [HR.out]; rfl, B1.out⟩
    · have hfull : eqL a b = true := by
        have h := Hp.out
        have h2 := Hle.out
        rw [List.take_of_length_le (by omega), List.take_of_length_le (by omega)] at h
        exact h
      have HR := Lib.hid hfull
      clear hfull
      have k1 : (a.length : Int) ≤ (k : Int) := by omega
      clear hlt
      go_wp2_with fail
      go_ret
      exact ⟨by rw [HR.out]; rfl, bR.out⟩
end Go.Proofs.YtnndnjnpkjpkpaaGreatDoor
