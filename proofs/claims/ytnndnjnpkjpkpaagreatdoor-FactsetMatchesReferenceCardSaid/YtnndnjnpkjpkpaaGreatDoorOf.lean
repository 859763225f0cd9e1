/- Contracts of the laws' cut and of; rows of facts of one's own. -/
import Derived.Test.YtnndnjnpkjpkpaaGreatDoorHel
namespace Go.Proofs.YtnndnjnpkjpkpaaGreatDoor
open Go.RowKit Go.Maps

/-! ### SameFacts, for every two slices -/
set_option maxRecDepth 100000 in
theorem sameF_nil (A B : Option Addr) (ca cb : Nat) (w : World) :
    Calls Tryz.prog 17 #[.slice A 0 ca, .slice B 0 cb] w fun e W' => e = .returned (.bool true) ∧ Below w.heap.size w W' := by
  go_enter Tryz.func17, Tryz.ntmps17
  go_wp2_with fail
  go_loop [5] (fun iv => iv = .int .i64 0) (fun _ => 0)
  case atStart => exact rfl
  case round =>
    obtain rfl := hrel
    go_wp2_with fail
    go_ret
    exact ⟨rfl, Below.refl _ _⟩
set_option maxRecDepth 100000 in
theorem sameF_len (a b : List Fa) (A B : Option Addr) (ca cb : Nat) (w : World) (hl : a.length ≠ b.length) :
    Calls Tryz.prog 17 #[.slice A a.length ca, .slice B b.length cb] w fun e W' => e = .returned (.bool false) ∧ Below w.heap.size w W' := by
  have q1 : ((a.length : Int) != (b.length : Int)) = true := by rw [bne_iff_ne]; omega
  generalize a.length = n at *
  generalize b.length = m at *
  have q2 : ((n : Int) == (m : Int)) = false := by rw [beq_eq_false_iff_ne]; omega
  go_enter Tryz.func17, Tryz.ntmps17
  go_wp2_with fail
  go_ret
  exact ⟨rfl, Below.refl _ _⟩
theorem eqL_len {a b : List Fa} (h : a.length ≠ b.length) : eqL a b = false := by
  cases hh : eqL a b with
  | false => rfl
  | true =>
    have := congrArg List.length ((eqL_iff a b).1 hh)
    rw [List.length_map, List.length_map] at this
    exact absurd this h
theorem sameF_any (a b : List Fa) (A B : Option Addr) (ca cb : Nat) (w : World) (hA : FactsS w A a) (hB : FactsS w B b) (hl : a.length ≤ 1000000) :
    Calls Tryz.prog 17 #[.slice A a.length ca, .slice B b.length cb] w fun e W' => e = .returned (.bool (eqL a b)) ∧ Below w.heap.size w W' := by
  by_cases hlen : a.length = b.length
  · rcases hA with rfl | ⟨ba, oa, rfl, hA⟩
    · have hb0 : b = [] := List.length_eq_zero_iff.1 hlen.symm
      subst hb0
      exact sameF_nil A B ca cb w
    · rcases hB with rfl | ⟨bb, ob, rfl, hB⟩
      · have ha0 : a = [] := List.length_eq_zero_iff.1 hlen
        subst ha0
        exact sameF_nil _ B ca cb w
      · exact sameF_main a b ba oa ca bb ob cb w hlen hA hB hl
  · rw [eqL_len hlen]
    exact sameF_len a b A B ca cb w hlen

/-! ### Rows of facts -/
def cellsA (fs : List Fa) : List Value := fs.flatMap fun f => (factC f.1 f.2).toList
theorem cellsA_snoc (fs : List Fa) (f : Fa) : cellsA (fs ++ [f]) = cellsA fs ++ (factC f.1 f.2).toList := by unfold cellsA; rw [List.flatMap_append]; simp
theorem cellsA_length (fs : List Fa) : (cellsA fs).length = fs.length * 18 := by
  induction fs with
  | nil => rfl
  | cons x r ih =>
    show ((factC x.1 x.2).toList ++ cellsA r).length = _
    have h18 : (factC x.1 x.2).toList.length = 18 := rfl
    rw [List.length_append, ih, h18, List.length_cons]
    omega
theorem cellsA_get (fs : List Fa) (i j : Nat) (hi : i < fs.length) (hj : j < 18) : (cellsA fs)[i * 18 + j]? = (factC (fs.getD i zeroA).1 (fs.getD i zeroA).2)[j]? := by
  induction fs generalizing i with
  | nil => simp at hi
  | cons f r ih =>
    show ((factC f.1 f.2).toList ++ cellsA r)[i * 18 + j]? = _
    have h18 : (factC f.1 f.2).toList.length = 18 := rfl
    cases i with
    | zero =>
      rw [List.getElem?_append_left (by rw [h18]; omega), Nat.zero_mul, Nat.zero_add]
      simp
    | succ i =>
      rw [List.getElem?_append_right (by rw [h18]; omega), h18, show (i + 1) * 18 + j - 18 = i * 18 + j by omega]
      rw [ih i (by simpa using hi)]
      simp
theorem cellsF_eq (fs : List OkF) : cellsF fs = cellsA (fs.map (·.1)) := by
  unfold cellsF cellsA
  rw [List.flatMap_map]
def RowA (w : World) (base : Nat) (v : Value) (fs : List Fa) : Prop := w.ownsRow base 40 18 v fs.length (cellsA fs)
theorem RowF.rowA {w : World} {base : Nat} {v : Value} {fs : List OkF} (h : RowF w base v fs) : RowA w base v (fs.map (·.1)) := by
  unfold RowF at h
  unfold RowA
  rw [List.length_map, ← cellsF_eq]
  exact h
theorem RowA.slice {w : World} {base : Nat} {v : Value} {fs : List Fa} (h : RowA w base v fs) : ∃ A cap, v = .slice A fs.length cap ∧ fs.length ≤ cap ∧ FactsS w A fs := by
  rcases h.2 with ⟨rfl, h0⟩ | ⟨g, cap, cur, rfl, _, hg, hcap, _, _, htake⟩
  · refine ⟨none, 0, by rw [h0], by omega, .inl (List.length_eq_zero_iff.1 h0)⟩
  · refine ⟨some ⟨g, 0, none⟩, cap, rfl, hcap, .inr ⟨g, 0, rfl, fun i hi j x hx => ?_⟩⟩
    have hj : j < 18 := (Array.getElem?_eq_some_iff.1 hx).1
    rw [cell_of_row _ _ _ _ _ _ hg, Nat.zero_add]
    have h1 := cellsA_get fs i j hi hj
    rw [hx] at h1
    rw [← htake, List.getElem?_take] at h1
    split at h1
    · rw [← h1, Array.getElem?_toList]
    · cases h1
theorem RowA.below {w w' : World} {base : Nat} {v : Value} {fs : List Fa} (h : RowA w base v fs) (hb : Below w.heap.size w w') : RowA w' base v fs := by
  refine ⟨h.1, ?_⟩
  rcases h.2 with h0 | ⟨g, cap, cur, hv, hbg, hg, r⟩
  · exact .inl h0
  · exact .inr ⟨g, cap, cur, hv, hbg, (hb.block g (Array.getElem?_eq_some_iff.1 hg).1).trans hg, r⟩
theorem RowA.nil (w : World) (base : Nat) : RowA w base (.slice none 0 0) [] := World.ownsRow_nil _ _ _ _
theorem RowA.lt {w : World} {base : Nat} {v : Value} {fs : List Fa} (h : RowA w base v fs) : ∀ k, v.ownBlock = some k → base ≤ k := fun k e => (World.ownsRow.lt h k e).1
theorem appendA (base : Nat) (w : World) {v : Value} {l : List Fa} (hv : RowA w base v l) (f : Fa) (g : Nat) (hg : w.heap[g]? = some (.cells (factC f.1 f.2) 40 (0, 0))) (hb : base ≤ w.heap.size) (hlen : l.length ≤ 1000000) (ty : TypeId) :
    ∃ v' w', (Builtin.append_ #[22, 22] ty #[v, .slice (some ⟨g, 0, none⟩) 1 1]).run Tryz.prog w = .ok v' w' ∧ RowA w' base v' (l ++ [f]) ∧ w.grownBy w' v.ownBlock := by
  obtain ⟨i0, hi, hz0, hz1, hz2⟩ := info_parts infoF
  have hone := factC_one f.1 f.2
  have h18 : (factC f.1 f.2).toList.length = 1 * 18 := rfl
  obtain ⟨v', w', hr, ho, hgr, _, _⟩ := run_append_own_at w base 22 ty 40 i0 _ 18 152 Tryz.underlying22 hi hz0 hz1 hz2 rfl (by decide) v l.length (cellsA l) hv ⟨g, 0, none⟩ 1 1 (factC f.1 f.2).toList h18 (World.news_of_block hg)
    (fun u hu => Array.all_eq_true_iff_forall_mem.1 hone u (Array.mem_def.2 hu)) (by unfold maxLen; omega) (by omega) hb
  refine ⟨v', w', hr, ?_, hgr⟩
  unfold RowA
  rw [List.length_append, cellsA_snoc]
  exact ho

/-! ### cut -/
/-- A fact with a text of at most 2100 bytes. -/
def cutA (f : Fa) : Fa := (f.1, f.2.extract 0 (min f.2.size 2100))
/-- What cut returns. -/
def cutL (l : List Fa) : List Fa := (l.take 25).map cutA
theorem cutL_length (l : List Fa) : (cutL l).length ≤ 25 := by unfold cutL; rw [List.length_map, List.length_take]; omega
theorem cutL_succ (l : List Fa) (k : Nat) (h : k < l.length) : (l.take (k + 1)).map cutA = (l.take k).map cutA ++ [cutA (l.getD k zeroA)] := by
  rw [List.take_succ_eq_append_getElem h, List.map_append, List.getD_eq_getElem?_getD, List.getElem?_eq_getElem h]
  rfl
theorem wpList_build1 {P : Program} {ops : Array Oper} {rest : List Oper} {o : Oper} {a : Act} {w : World} {Q : Exit → Act → World → Prop} (hgd : o.guard = none) (t : TypeId) (x : Operand) (ho : o.op = .buildSlice t 1 #[(0, x)])
    (u : Value) (hx : a.eval x = u) {v' : Value} {w' : World} (hr : (Instr.buildSlice t 1 #[(0, u)]).run P w = .ok v' w') (h : wpList P ops Q rest (a.put o.dst v') w') : wpList P ops Q (o :: rest) a w :=
  wpList_plain hgd fun _ hK => by
    unfold Oper.wp execOp
    simp only [ho, hx, List.map_toArray, List.map_cons, List.map_nil, Sem.run_bind, Sem.run_pure, Result.andThen_ok, hr]
    exact hK _ _ h
theorem cutA_text (t : ByteArray) : t.extract 0 (min (t.size : Int) 2100).toNat = (cutA (zeroA.1, t)).2 := by
  show _ = t.extract 0 (min t.size 2100)
  congr 1
  omega
set_option maxRecDepth 100000 in
set_option maxHeartbeats 400000 in
theorem cut_calls (l : List Fa) (A : Option Addr) (cap : Nat) (w : World) (hA : FactsS w A l) (hl : l.length ≤ 9223372036854775807) (hx : ∀ f ∈ l, f.2.size ≤ 9223372036854775807) :
    Calls Tryz.prog 5 #[.slice A l.length cap] w fun e W' => ∃ v, e = .returned v ∧ RowA W' w.heap.size v (cutL l) ∧ Below w.heap.size w W' := by
  have HA := Lib.hid hA
  have HX := Lib.hid hx
  clear hA hx
  go_enter Tryz.func5, Tryz.ntmps5
  go_wp2_with fail
  go_loopw [3, 4] (fun v iv wr => ∃ k : Nat, k ≤ l.length ∧ k ≤ 25 ∧ iv = .int .i64 k ∧ Hid (RowA wr w.heap.size v ((l.take k).map cutA)) ∧ Hid (Below w.heap.size w wr)) (fun _ iv _ => 25 - (intOf iv).toNat)
  case atStart => exact ⟨0, by omega, by omega, rfl, Lib.hid (RowA.nil _ _), Lib.hid (Below.refl _ _)⟩
  case round =>
    obtain ⟨k, hk, hk25, rfl, HR, HB⟩ := hrel
    have k0 : 0 ≤ (k : Int) := by omega
    by_cases hlt : k < l.length
    · have k1 : (k : Int) < (l.length : Int) := by omega
      by_cases h25 : k < 25
      · have k2 : (k : Int) < 25 := by omega
        rcases HA.out with hz | ⟨b, o, rfl, hst⟩
        · rw [hz] at hlt; exact absurd hlt (by simp)
        · have Hat : Hid (∀ j x, (factC (l.getD k zeroA).1 (l.getD k zeroA).2)[j]? = some x → wr.cell? ⟨b, o + k * 18 + j, none⟩ = some x) := Lib.hid (hst.keep HB.out k hlt)
          have Hsucc := Lib.hid (cutL_succ l k hlt)
          have hsz : (l.getD k zeroA).2.size ≤ 9223372036854775807 := by
            rw [List.getD_eq_getElem?_getD, List.getElem?_eq_getElem hlt]
            exact HX.out _ (List.getElem_mem hlt)
          have hlen : ((l.take k).map cutA).length ≤ 1000000 := by rw [List.length_map, List.length_take]; omega
          have Hap := Lib.hid (fun (W : World) v' (hv : RowA W w.heap.size v' ((l.take k).map cutA)) (g : Nat) (hg : W.heap[g]? = some (.cells (factC (cutA (l.getD k zeroA)).1 (cutA (l.getD k zeroA)).2) 40 (0, 0))) (hb : w.heap.size ≤ W.heap.size) => appendA w.heap.size W hv (cutA (l.getD k zeroA)) g hg hb hlen 22)
          rw [← Hsucc.out] at Hap
          generalize l.getD k zeroA = f at *
          obtain ⟨u, t⟩ := f
          dsimp only at *
          have hbd := Lib.hid (fun W => build_fact u (cutA (u, t)).2 W)
          have hct : t.extract 0 (min (t.size : Int) 2100).toNat = (cutA (u, t)).2 := cutA_text t
          have hc1 : (cutA (u, t)).1 = u := rfl
          rw [hc1] at Hap
          clear hst hlen hc1 Hsucc
          generalize (cutA (u, t)).2 = ct at *
          have hsz2 := HB.out.size
          have hone := factC_one u t
          go_upto_region 6 with (first
            | refine wpList_load_at rfl _ rfl _ _ rfl _ _ Hat.out ?_
            | refine wpList_store_row rfl 40 _ _ rfl wr.heap.size (factC u t) rfl rfl 40 (factC (fun _ => 0) ⟨#[]⟩) (heap_new wr _) (hiC _ _) rfl hone ?_)
          obtain ⟨W1, hW1, f1, b1⟩ : ∃ W1, (wr.alloc (.cells (factC (fun _ => 0) ⟨#[]⟩) 40)).setRow wr.heap.size (factC u t) = W1 ∧ W1.heap[wr.heap.size]? = some (.cells (factC u t) 40 (0, 0)) ∧ Below wr.heap.size wr W1 :=
            ⟨_, rfl, setRow_heap _ _ _ _ _ _ (heap_new wr _), below_setRow' ((Below.refl _ wr).alloc (Nat.le_refl _) _) _ _ (Nat.le_refl _)⟩
          rw [hW1]
          clear hW1 Hat hone
          have c17 : W1.cell? ⟨wr.heap.size, 17, none⟩ = some (.string t) := by rw [cell_of_row _ _ _ _ _ _ f1]; rfl
          have z17 : W1.frozen? ⟨wr.heap.size, 17, none⟩ = false := frozen_of_row _ _ _ _ _ f1
          go_upto_region 7 with (fail)
          obtain ⟨W2, hW2, f2, b2⟩ : ∃ W2, W1.setCell ⟨wr.heap.size, 17, none⟩ (.string ct) = W2 ∧ W2.heap[wr.heap.size]? = some (.cells (factC u ct) 40 (0, 0)) ∧ Below wr.heap.size wr W2 :=
            ⟨_, rfl, text_row ct f1, b1.setCell (p := ⟨wr.heap.size, 17, none⟩) (Nat.le_refl _) _⟩
          rw [hW2]
          clear hW2 f1 b1 c17 z17 hct hsz
          have F2 := Lib.hid f2
          have hb2 := hbd.out W2
          have hb3 : Below wr.heap.size wr (W2.alloc (.cells (factC u ct) 40)) := b2.alloc b2.size _
          obtain ⟨v', W3, happ, hrow', hgr⟩ := Hap.out (W2.alloc (.cells (factC u ct) 40)) u3 (HR.out.below hb3) W2.heap.size (heap_new _ _) (Nat.le_trans hsz2 hb3.size)
          have B3 := Lib.hid ((HB.out.trans (hb3.mono hsz2)).grown hgr (Nat.le_trans hsz2 hb3.size) (fun j e => HR.out.lt j e))
          have R3 := Lib.hid hrow'
          have hic := hiC u ct
          clear f2 hb3 b2 hgr hrow' Hap HR HB hbd hsz2
          generalize factC u ct = c at *
          go_wp2_with (first
            | refine wpList_load_row rfl 40 _ rfl wr.heap.size rfl _ _ _ _ F2.out Tryz.underlying40 rfl hic ?_
            | (refine wpList_build1 rfl 22 (.tmp 29) rfl (.agg c) rfl hb2 ?_)
            | (at_builtin; refine wpList_append_run rfl _ _ _ rfl _ _ rfl rfl happ ?_))
          go_roundw
          case rel => exact ⟨k + 1, by omega, by omega, by go_num, R3, B3⟩
          case measure => simp [intOf]; omega
      · have k2 : (25 : Int) ≤ (k : Int) := by omega
        have hfin : (l.take k).map cutA = cutL l := by
          unfold cutL
          rw [show k = 25 by omega]
        rw [hfin] at HR
        clear h25 hfin
        go_wp2_with fail
        go_ret
        exact ⟨_, rfl, HR.out, HB.out⟩
    · have k1 : (l.length : Int) ≤ (k : Int) := by omega
      have hfin : (l.take k).map cutA = cutL l := by
        unfold cutL
        rw [List.take_of_length_le (by omega), List.take_of_length_le (by omega)]
      rw [hfin] at HR
      clear hlt hfin
      go_wp2_with fail
      go_ret
      exact ⟨_, rfl, HR.out, HB.out⟩
/-! ### of -/
theorem addAll_succ (l : List Fa) (k : Nat) (h : k < l.length) : ofL (l.take (k + 1)) = plusE (ofL (l.take k)) (l.getD k zeroA) := by
  unfold ofL addAll
  rw [List.take_succ_eq_append_getElem h, List.foldl_append, List.getD_eq_getElem?_getD, List.getElem?_eq_getElem h]
  rfl
end Go.Proofs.YtnndnjnpkjpkpaaGreatDoor
