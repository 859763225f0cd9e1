/- The contract of base's adding closures: a fact is put at the end of the list whose address is captured; the lists of a base lie in blocks of their own. -/
import Derived.Test.YtngkfopdlkddnaaK20
import Derived.Test.YtngkfopdlkddnaaK24
import Derived.Test.YtngkfopdlkddnaaK17
namespace Go.Proofs.Ytngkfopdlkddnaa
open Go Go.RowKit Go.Maps
theorem appendA2 (base : Nat) (w : World) {v : Value} {l : List Fa} (hv : RowA w base v l) (f : Fa) (g : Nat) (hg : w.heap[g]? = some (.cells (factC f.1 f.2) 29 (0, 0))) (hb : base ≤ w.heap.size) (hlen : l.length ≤ 1000000) (ty : TypeId) :
    ∃ v' w', (Builtin.append_ #[23, 23] ty #[v, .slice (some ⟨g, 0, none⟩) 1 1]).run Try.prog w = .ok v' w' ∧ RowA w' base v' (l ++ [f]) ∧ w.grownBy w' v.ownBlock ∧ (v'.ownBlock = v.ownBlock ∨ v'.ownBlock = some w.heap.size) := by
  obtain ⟨i0, hi, hz0, hz1, hz2⟩ := info_parts infoF
  have hone := factC_one f.1 f.2
  have h18 : (factC f.1 f.2).toList.length = 1 * 18 := rfl
  obtain ⟨v', w', hr, ho, hgr, _, hb2⟩ := run_append_own_at w base 23 ty 29 i0 _ 18 152 Try.underlying23 hi hz0 hz1 hz2 rfl (by decide) v l.length (cellsA l) hv ⟨g, 0, none⟩ 1 1 (factC f.1 f.2).toList h18 (World.news_of_block hg)
    (fun u hu => Array.all_eq_true_iff_forall_mem.1 hone u (Array.mem_def.2 hu)) (by unfold maxLen; omega) (by omega) hb
  refine ⟨v', w', hr, ?_, hgr, hb2⟩
  unfold RowA
  rw [List.length_append, cellsA_snoc]
  exact ho
abbrev cells10 (vs : Nat → Value) : Array Value := #[vs 0, vs 1, vs 2, vs 3, vs 4, vs 5, vs 6, vs 7, vs 8, vs 9]
theorem cells10_get (vs : Nat → Value) {k : Nat} (hk : k < 10) : (cells10 vs)[k]? = some (vs k) := by
  have h : k = 0 ∨ k = 1 ∨ k = 2 ∨ k = 3 ∨ k = 4 ∨ k = 5 ∨ k = 6 ∨ k = 7 ∨ k = 8 ∨ k = 9 := by omega
  rcases h with rfl | rfl | rfl | rfl | rfl | rfl | rfl | rfl | rfl | rfl <;> rfl
theorem cells10_set (vs : Nat → Value) {k : Nat} (hk : k < 10) (v : Value) : (cells10 vs).setIfInBounds k v = cells10 (fun j => if j = k then v else vs j) := by
  have h : k = 0 ∨ k = 1 ∨ k = 2 ∨ k = 3 ∨ k = 4 ∨ k = 5 ∨ k = 6 ∨ k = 7 ∨ k = 8 ∨ k = 9 := by omega
  rcases h with rfl | rfl | rfl | rfl | rfl | rfl | rfl | rfl | rfl | rfl <;> rfl
/-- All that lay below base is as it was, and all that holds no facts, but for block p. -/
def KeepB (base p : Nat) (w w' : World) : Prop := w'.os = w.os ∧ w'.tape = w.tape ∧ w'.output = w.output ∧ w.heap.size ≤ w'.heap.size ∧ ∀ j, (j < base ∨ ∃ c T fr, T ≠ 29 ∧ w.heap[j]? = some (.cells c T fr)) → j ≠ p → w'.heap[j]? = w.heap[j]?
theorem KeepB.refl (base p : Nat) (w : World) : KeepB base p w w := ⟨rfl, rfl, rfl, Nat.le_refl _, fun _ _ _ => rfl⟩
theorem KeepB.trans {base p : Nat} {a b c : World} (h : KeepB base p a b) (k : KeepB base p b c) : KeepB base p a c :=
  ⟨k.1.trans h.1, k.2.1.trans h.2.1, k.2.2.1.trans h.2.2.1, Nat.le_trans h.2.2.2.1 k.2.2.2.1, fun j h1 h2 => by
    have e := h.2.2.2.2 j h1 h2
    refine (k.2.2.2.2 j ?_ h2).trans e
    rcases h1 with h1 | ⟨c, T, fr, h3, h4⟩
    · exact .inl h1
    · exact .inr ⟨c, T, fr, h3, e.trans h4⟩⟩
theorem KeepB.below {base p : Nat} {a b c : World} (h : KeepB base p a b) (k : Below b.heap.size b c) (hb : base ≤ b.heap.size) : KeepB base p a c :=
  h.trans ⟨k.os, k.tape, k.output, k.size, fun j h1 _ => k.block j (by
    rcases h1 with h1 | ⟨c, T, fr, _, h4⟩
    · omega
    · exact (Array.getElem?_eq_some_iff.1 h4).1)⟩
theorem KeepB.grown {base p : Nat} {a b c : World} {row : Option Nat} (h : KeepB base p a b) (k : b.grownBy c row) (hb : base ≤ b.heap.size) (hr : ∀ j, row = some j → (base ≤ j ∧ ∃ cs fr, b.heap[j]? = some (.cells cs 29 fr)) ∨ j = p) : KeepB base p a c :=
  h.trans ⟨k.os, k.tape, k.output, k.size, fun j h1 h2 => k.block j (by
    rcases h1 with h1 | ⟨c, T, fr, _, h4⟩
    · omega
    · exact (Array.getElem?_eq_some_iff.1 h4).1) (fun e => by
    rcases hr j e.symm with ⟨h3, cs, fr2, h5⟩ | h3
    · rcases h1 with h1 | ⟨c, T, fr, h6, h4⟩
      · omega
      · rw [h5] at h4; cases h4; exact h6 rfl
    · exact h2 h3)⟩
theorem KeepB.cell {base p : Nat} {w w' : World} (h : KeepB base p w w') {b o : Nat} {x : Value} (hb : b < base) (hp : b ≠ p) (hc : w.cell? ⟨b, o, none⟩ = some x) : w'.cell? ⟨b, o, none⟩ = some x :=
  (World.cell?_of_block (h.2.2.2.2 b (.inl hb) hp)).trans hc
theorem KeepB.row {base p : Nat} {w w' : World} (h : KeepB base p w w') {b : Nat} {c : Array Value} {T : TypeId} {fr : Nat × Nat} (hT : T ≠ 29) (hp : b ≠ p) (hc : w.heap[b]? = some (.cells c T fr)) : w'.heap[b]? = some (.cells c T fr) :=
  (h.2.2.2.2 b (.inr ⟨c, T, fr, hT, hc⟩) hp).trans hc
theorem KeepB.grownBy {p : Nat} {w w' : World} (h : KeepB w.heap.size p w w') : w.grownBy w' (some p) := ⟨h.1, h.2.1, h.2.2.1, h.2.2.2.1, fun j h1 h2 => h.2.2.2.2 j (.inl h1) (fun e => h2 (by rw [e]))⟩
theorem RowA.block {w : World} {base : Nat} {v : Value} {l : List Fa} (h : RowA w base v l) : ∀ j, v.ownBlock = some j → base ≤ j ∧ ∃ cs fr, w.heap[j]? = some (.cells cs 29 fr) := fun j e => by
  rcases h.2 with ⟨h0, _⟩ | ⟨g, cap, cur, hv, hbg, hg, _⟩
  · rw [h0] at e; cases e
  · rw [hv] at e; cases e; exact ⟨hbg, cur, _, hg⟩
/-- A base in memory: a block with ten slices, each a row of its own. -/
def SlotsB (w : World) (base p : Nat) (vs : Nat → Value) (Ls : Nat → List Fa) : Prop :=
  w.heap[p]? = some (.cells (cells10 vs) 32 (0, 0)) ∧ (∀ k, k < 10 → RowA w base (vs k) (Ls k)) ∧ ∀ i j, i < 10 → j < 10 → i ≠ j → (vs i).ownBlock = none ∨ (vs i).ownBlock ≠ (vs j).ownBlock
def BaseB (w : World) (base p : Nat) (Ls : Nat → List Fa) : Prop := ∃ vs : Nat → Value, SlotsB w base p vs Ls
theorem SlotsB.below {w w' : World} {base p : Nat} {vs : Nat → Value} {Ls : Nat → List Fa} (h : SlotsB w base p vs Ls) (hb : Below w.heap.size w w') : SlotsB w' base p vs Ls :=
  ⟨(hb.block p (Array.getElem?_eq_some_iff.1 h.1).1).trans h.1, fun k hk => (h.2.1 k hk).below hb, h.2.2⟩
theorem SlotsB.cell {w : World} {base p : Nat} {vs : Nat → Value} {Ls : Nat → List Fa} (h : SlotsB w base p vs Ls) {k : Nat} (hk : k < 10) : w.cell? ⟨p, k, none⟩ = some (vs k) := by
  rw [cell_of_row _ _ _ _ _ _ h.1]; exact cells10_get vs hk
/-- One list has grown in place or elsewhere; its slice is stored. -/
theorem SlotsB.store {w w2 : World} {base p : Nat} {vs : Nat → Value} {Ls : Nat → List Fa} (h : SlotsB w base p vs Ls) (hp : p < base) {k : Nat} (hk : k < 10) {v' : Value} {L : List Fa} (hrow : RowA w2 base v' L) (hg : w.grownBy w2 (vs k).ownBlock) (ht : v'.ownBlock = (vs k).ownBlock ∨ v'.ownBlock = some w.heap.size) :
    SlotsB (w2.setCell ⟨p, k, none⟩ v') base p (fun j => if j = k then v' else vs j) (fun j => if j = k then L else Ls j) := by
  have hpl : p < w.heap.size := (Array.getElem?_eq_some_iff.1 h.1).1
  have hown : ∀ j, j < 10 → ∀ g, (vs j).ownBlock = some g → base ≤ g ∧ g < w.heap.size := fun j hj g e => World.ownsRow.lt (h.2.1 j hj) g e
  have hp2 : w2.heap[p]? = some (.cells (cells10 vs) 32 (0, 0)) := (hg.block p hpl (fun e => by have := hown k hk p e.symm; omega)).trans h.1
  have hgs := grown_setCellP w2 ⟨p, k, none⟩ v'
  have hrows : ∀ {u : Value} {M : List Fa}, RowA w2 base u M → RowA (w2.setCell ⟨p, k, none⟩ v') base u M := fun {u M} hu => World.ownsRow.kept hu hgs (by
    by_cases e : u.ownBlock = none
    · exact .inl e
    · refine .inr (fun e2 => ?_)
      have := (World.ownsRow.lt hu p e2).1
      omega)
  refine ⟨?_, fun j hj => ?_, fun i j hi hj hij => ?_⟩
  · rw [heap_setCell_same _ _ _ _ _ _ hp2, cells10_set vs hk]
  · by_cases e : j = k
    · subst e; simp only [if_true]; exact hrows hrow
    · simp only [if_neg e]
      refine hrows (World.ownsRow.kept (h.2.1 j hj) hg ?_)
      exact h.2.2 j k hj hk e
  · by_cases e1 : i = k
    · subst e1
      have e2 : ¬ j = i := fun e => hij e.symm
      simp only [if_true, if_neg e2]
      rcases ht with ht | ht
      · rw [ht]; exact h.2.2 i j hi hj hij
      · rw [ht]; refine .inr (fun e => ?_)
        have := hown j hj _ e.symm
        omega
    · by_cases e2 : j = k
      · subst e2
        simp only [if_true, if_neg e1]
        rcases ht with ht | ht
        · rw [ht]; exact h.2.2 i j hi hj hij
        · by_cases e3 : (vs i).ownBlock = none
          · exact .inl e3
          · refine .inr (fun e => ?_)
            rw [ht] at e
            have := hown i hi _ e
            omega
      · simp only [if_neg e1, if_neg e2]; exact h.2.2 i j hi hj hij
theorem any_of_one' {P : Program} {md : Region.Mode} {ops : Array Oper} {C : World → Prop} {Q : Exit → Act → World → Prop} {fuel : Nat} {listed : Array Bool} {a : Act} {w : World} (i : Nat) {oi : Oper} (hr : Region.ready md ops listed = [i]) (hi : ops[i]? = some oi) (wi : Region.wanted oi (yielded ops a.tmps) = true)
    (h1 : oi.wp P a w (fun b w' => C w' ∧ wpAnyH P md ops Q C fuel (listed.setIfInBounds i true) b w') Q) : wpAnyH P md ops Q C (fuel + 1) listed a w := by
  refine ⟨fun h => (by rw [hr] at h; cases h), fun k hk => ?_⟩
  rw [hr] at hk
  obtain rfl : k = i := by simpa using hk
  unfold wpOp
  simp only [hi, wi, if_true]
  exact .inl h1
theorem wp_of_call {P : Program} {o : Oper} {a : Act} {w : World} {K : Act → World → Prop} {Q : Exit → Act → World → Prop} (f : FuncId) (args : Array Value) (v : Value) (R : World → Prop) (ho : (execOp a.eval o).run P w = .ok (.enter f args) w) (hc : Calls P f args w fun e w2 => e = .returned v ∧ R w2)
    (k : ∀ w2, R w2 → K (a.put o.dst v) w2) : o.wp P a w K Q := by
  simp only [Oper.wp, ho, Oper.upon]
  refine Calls.mono hc fun e w2 he => ?_
  obtain ⟨rfl, h2⟩ := he
  exact k w2 h2
theorem wp_build_fact {o : Oper} {a : Act} {w : World} {K : Act → World → Prop} {Q : Exit → Act → World → Prop} (x : Operand) (ho : o.op = .buildSlice 23 1 #[(0, x)]) (f : Fa) (hx : a.eval x = .agg (factC f.1 f.2))
    (k : K (a.put o.dst (.slice (some ⟨w.heap.size, 0, none⟩) 1 1)) (w.alloc (.cells (factC f.1 f.2) 29))) : o.wp Try.prog a w K Q := by
  have hr := build_fact f.1 f.2 w
  generalize factC f.1 f.2 = cs at *
  unfold Oper.wp execOp
  simp only [ho, hx, List.map_toArray, List.map_cons, List.map_nil, Sem.run_bind, Sem.run_pure, Result.andThen_ok, hr, Oper.upon]
  exact k
theorem mix_build_fact {ops : Array Oper} {C : World → Prop} {Q : Exit → Act → World → Prop} {o : Oper} {l : List Oper} {bs : List Bool} {a : Act} {w : World} (x : Operand) (ho : o.op = .buildSlice 23 1 #[(0, x)]) (f : Fa) (hx : a.eval x = .agg (factC f.1 f.2)) (hw : Region.wanted o (yielded ops a.tmps) = true) (hc : C (w.alloc (.cells (factC f.1 f.2) 29)))
    (k : wpMix Try.prog ops Q C bs l (a.put o.dst (.slice (some ⟨w.heap.size, 0, none⟩) 1 1)) (w.alloc (.cells (factC f.1 f.2) 29))) : wpMix Try.prog ops Q C (false :: bs) (o :: l) a w :=
  ⟨hw, wp_build_fact x ho f hx ⟨hc, k⟩⟩
/-- What holds in the closure's region. -/
def InAdd (base p fb : Nat) (f : Fa) (w w' : World) : Prop := KeepB base p w w' ∧ w'.heap[fb]? = some (.cells (factC f.1 f.2) 29 (0, 0)) ∧ base ≤ w'.heap.size
theorem InAdd.below {base p fb : Nat} {f : Fa} {w w1 w2 : World} (h : InAdd base p fb f w w1) (hb : Below w1.heap.size w1 w2) : InAdd base p fb f w w2 :=
  ⟨h.1.below hb h.2.2, (hb.block _ (Array.getElem?_eq_some_iff.1 h.2.1).1).trans h.2.1, Nat.le_trans h.2.2 hb.size⟩
set_option maxRecDepth 100000 in
set_option maxHeartbeats 4000000 in
theorem add_calls (k : Nat) (hk : k < 10) (base p bx : Nat) (hp : p < base) (hbx : bx < base) (hbp : bx ≠ p) (Ls : Nat → List Fa) (f : Fa) (ht : f.2.size ≤ 281474976710656) (hlen : (Ls k).length ≤ 100000) (w : World) (hbase : base ≤ w.heap.size)
    (hB : BaseB w base p Ls) (hc : w.cell? ⟨bx, 0, none⟩ = some (.pointer (some ⟨p, k, none⟩))) :
    Calls Try.prog 45 #[.agg (factC f.1 f.2), .pointer (some ⟨bx, 0, none⟩)] w fun e w' => e = .returned (.tuple #[]) ∧ BaseB w' base p (fun j => if j = k then Ls k ++ [f] else Ls j) ∧ KeepB base p w w' := by
  obtain ⟨vs, hS⟩ := hB
  have HA := Lib.hid (fun W => apart_calls f.1 f.2 W ht)
  have hone := factC_one f.1 f.2
  go_enter Try.func45, Try.ntmps45
  go_upto_region 1 with (fail)
  obtain ⟨W0, hW0, f0, b0⟩ : ∃ W0, w.alloc (.cells (factC f.1 f.2) 29) = W0 ∧ W0.heap[w.heap.size]? = some (.cells (factC f.1 f.2) 29 (0, 0)) ∧ Below w.heap.size w W0 := ⟨_, rfl, heap_new w _, (Below.refl _ w).alloc (Nat.le_refl _) _⟩
  rw [hW0]
  clear hW0
  have hI0 : InAdd base p w.heap.size f w W0 := ⟨(KeepB.refl base p w).below b0 hbase, f0, Nat.le_trans hbase b0.size⟩
  have hS0 := hS.below b0
  have hptr : ∀ w', InAdd base p w.heap.size f w w' → w'.cell? ⟨bx, 0, none⟩ = some (.pointer (some ⟨p, k, none⟩)) := fun w' h => h.1.cell hbx hbp hc
  refine wp_region_pre (InAdd base p w.heap.size f w) (fun w' => Below W0.heap.size W0 w') (fun l => (swapAt 3 l).take 4) [true, true, true, true] [0, 1, 2, 4] 6 #[true, true, true, false, true, false, false, false, false, false] (by kernel_rfl) (by kernel_rfl) (by kernel_rfl) (by kernel_rfl) (by kernel_rfl) (hI0.below ((Below.refl _ _).drew)) ((Below.refl _ _).drew) ?_
  intro w0 hC0 hD0
  have hS1 : SlotsB w0 base p vs Ls := hS0.below hD0
  have hown0 : ∀ g, (vs k).ownBlock = some g → base ≤ g ∧ g < w.heap.size := fun g e => World.ownsRow.lt (hS.2.1 k hk) g e
  obtain ⟨A, cap, hv, hcap, -⟩ := RowA.slice (hS.2.1 k hk)
  simp only [swapAt, List.take_succ_cons, List.take_zero]
  refine mix_val (.pointer (some ⟨p, k, none⟩)) (by rfl) (fun w' h => by have hh := hptr w' h; go_simp) ?_
  simp only [Act.put, List.setIfInBounds_toArray, List.set_cons_zero, List.set_cons_succ]
  refine mix_val (.pointer (some ⟨p, k, none⟩)) (by rfl) (fun w' h => by have hh := hptr w' h; go_simp) ?_
  simp only [Act.put, List.setIfInBounds_toArray, List.set_cons_zero, List.set_cons_succ]
  refine mix_val (.pointer (some ⟨p, k, none⟩)) (by rfl) (fun _ _ => by first | rfl | (go_simp; done)) ?_
  simp only [Act.put, List.setIfInBounds_toArray, List.set_cons_zero, List.set_cons_succ]
  refine mix_load_fact (by rfl) _ rfl w.heap.size rfl f.1 f.2 (fun w' h => h.2.1) ?_
  simp only [Act.put, List.setIfInBounds_toArray, List.set_cons_zero, List.set_cons_succ]
  show wpAnyH _ _ _ _ _ 6 _ _ _
  have cp0 := hS1.cell hk
  rw [hv] at cp0
  refine any_of_two 3 5 (by kernel_rfl) (by rfl) (by rfl) (by rfl) (by rfl) ?_ ?_
  all_goals simp only [List.getElem_toArray, List.getElem_cons_succ, List.getElem_cons_zero]
  · refine wp_of_val w0 (.slice A (Ls k).length cap) (by go_simp) ⟨hC0, ?_⟩
    simp only [Act.put, List.setIfInBounds_toArray, List.set_cons_zero, List.set_cons_succ]
    refine any_of_one' 5 (by kernel_rfl) (by rfl) (by rfl) ?_
    all_goals simp only [List.getElem_toArray, List.getElem_cons_succ, List.getElem_cons_zero]
    refine wp_of_call 46 #[.agg (factC f.1 f.2)] (.agg (factC f.1 f.2)) (fun w2 => Below w0.heap.size w0 w2) (by go_simp) (HA.out w0) ?_
    intro w2 hb2
    have hC2 := hC0.below hb2
    have hS2 := hS1.below hb2
    refine ⟨hC2, ?_⟩
    simp only [Act.put, List.setIfInBounds_toArray, List.set_cons_zero, List.set_cons_succ]
    have b3 : Below w2.heap.size w2 (w2.alloc (.cells (factC f.1 f.2) 29)) := (Below.refl _ w2).alloc (Nat.le_refl _) _
    have g3 := heap_new w2 (.cells (factC f.1 f.2) 29)
    refine any_of_one' 6 (by kernel_rfl) (by rfl) (by rfl) ?_
    all_goals simp only [List.getElem_toArray, List.getElem_cons_succ, List.getElem_cons_zero]
    refine wp_build_fact _ rfl f rfl ⟨hC2.below b3, ?_⟩
    simp only [Act.put, List.setIfInBounds_toArray, List.set_cons_zero, List.set_cons_succ]
    have hC3 := hC2.below b3
    have hS3 := hS2.below b3
    clear hC0 hS1 hC2 hS2 b3 hb2 hD0 cp0 b0 f0 hI0 hS0
    generalize w2.alloc (.cells (factC f.1 f.2) 29) = w3 at *
    generalize w2.heap.size = g at *
    refine any_of_rest (fun l => l.drop 7) [false, true, false] [7, 8, 9] (by kernel_rfl) (by kernel_rfl) (by kernel_rfl) (by kernel_rfl) (by kernel_rfl) hC3 ?_
    simp only [List.drop_succ_cons, List.drop_zero]
    obtain ⟨v', w5, happ, hrow, hgr, hown⟩ := appendA2 base w3 (hS3.2.1 k hk) f g g3 hC3.2.2 (by omega) 23
    have hC5 : InAdd base p w.heap.size f w w5 := ⟨hC3.1.grown hgr hC3.2.2 (fun j e => .inl ((hS3.2.1 k hk).block j e)), (hgr.block _ (Array.getElem?_eq_some_iff.1 hC3.2.1).1 (fun e => by have := (hown0 _ e.symm).2; omega)).trans hC3.2.1, Nat.le_trans hC3.2.2 hgr.size⟩
    have hS6 := hS3.store hp hk hrow hgr hown
    have hp5 : w5.heap[p]? = some (.cells (cells10 vs) 32 (0, 0)) := (hgr.block p (Array.getElem?_eq_some_iff.1 hS3.1).1 (fun e => by have := (hown0 _ e.symm).1; omega)).trans hS3.1
    have cp5 : w5.cell? ⟨p, k, none⟩ = some (vs k) := by rw [cell_of_row _ _ _ _ _ _ hp5]; exact cells10_get vs hk
    have zp5 : w5.frozen? ⟨p, k, none⟩ = false := frozen_of_row _ _ _ _ _ hp5
    have hgs := grown_setCellP w5 ⟨p, k, none⟩ v'
    have hC6 : InAdd base p w.heap.size f w (w5.setCell ⟨p, k, none⟩ v') := ⟨hC5.1.grown hgs hC5.2.2 (fun j e => by cases e; exact .inr rfl), (hgs.block _ (Array.getElem?_eq_some_iff.1 hC5.2.1).1 (fun e => by have := Option.some.inj e; simp at this; omega)).trans hC5.2.1, Nat.le_trans hC5.2.2 hgs.size⟩
    obtain ⟨A', cap', hv', -, -⟩ := RowA.slice hrow
    rw [hv] at happ
    refine mix_append2 _ _ _ (by rfl) _ _ (by rfl) (by rfl) happ (by rfl) hC5 ?_
    simp only [Act.put, List.setIfInBounds_toArray, List.set_cons_zero, List.set_cons_succ]
    refine mix_val (.pointer (some ⟨p, k, none⟩)) (by rfl) (fun _ _ => by first | rfl | (go_simp; done)) ?_
    simp only [Act.put, List.setIfInBounds_toArray, List.set_cons_zero, List.set_cons_succ]
    refine mix_skip (w5.setCell ⟨p, k, none⟩ v') (by rfl) (by rw [hv']; go_simp) hC6 ?_
    simp only [Act.put]
    refine mix_done (P := Try.prog) (ops := #[]) (C := fun _ => True) ?_
    have HS6 := Lib.hid hS6
    have HC6 := Lib.hid hC6.1
    clear hS6 hC6 hgs zp5 cp5 hp5 hC5 hgr hrow happ hv' hown g3 hC3 hS3 hv hcap hptr hc hS hone
    generalize w5.setCell ⟨p, k, none⟩ v' = W6 at *
    go_wp2_with fail
    go_end0
    exact ⟨rfl, ⟨_, HS6.out⟩, HC6.out⟩
  · refine wp_of_call 46 #[.agg (factC f.1 f.2)] (.agg (factC f.1 f.2)) (fun w2 => Below w0.heap.size w0 w2) (by go_simp) (HA.out w0) ?_
    intro w2 hb2
    have hC2 := hC0.below hb2
    have hS2 := hS1.below hb2
    refine ⟨hC2, ?_⟩
    simp only [Act.put, List.setIfInBounds_toArray, List.set_cons_zero, List.set_cons_succ]
    have b3 : Below w2.heap.size w2 (w2.alloc (.cells (factC f.1 f.2) 29)) := (Below.refl _ w2).alloc (Nat.le_refl _) _
    have g3 := heap_new w2 (.cells (factC f.1 f.2) 29)
    have cp2 := hS2.cell hk
    rw [hv] at cp2
    refine any_of_two 3 6 (by kernel_rfl) (by rfl) (by rfl) (by rfl) (by rfl) ?_ ?_
    all_goals simp only [List.getElem_toArray, List.getElem_cons_succ, List.getElem_cons_zero]
    · refine wp_of_val w2 (.slice A (Ls k).length cap) (by go_simp) ⟨hC2, ?_⟩
      simp only [Act.put, List.setIfInBounds_toArray, List.set_cons_zero, List.set_cons_succ]
      refine any_of_one' 6 (by kernel_rfl) (by rfl) (by rfl) ?_
      all_goals simp only [List.getElem_toArray, List.getElem_cons_succ, List.getElem_cons_zero]
      refine wp_build_fact _ rfl f rfl ⟨hC2.below b3, ?_⟩
      simp only [Act.put, List.setIfInBounds_toArray, List.set_cons_zero, List.set_cons_succ]
      have hC3 := hC2.below b3
      have hS3 := hS2.below b3
      clear cp2
      clear hC0 hS1 hC2 hS2 b3 hb2 hD0 cp0 b0 f0 hI0 hS0
      generalize w2.alloc (.cells (factC f.1 f.2) 29) = w3 at *
      generalize w2.heap.size = g at *
      refine any_of_rest (fun l => l.drop 7) [false, true, false] [7, 8, 9] (by kernel_rfl) (by kernel_rfl) (by kernel_rfl) (by kernel_rfl) (by kernel_rfl) hC3 ?_
      simp only [List.drop_succ_cons, List.drop_zero]
      obtain ⟨v', w5, happ, hrow, hgr, hown⟩ := appendA2 base w3 (hS3.2.1 k hk) f g g3 hC3.2.2 (by omega) 23
      have hC5 : InAdd base p w.heap.size f w w5 := ⟨hC3.1.grown hgr hC3.2.2 (fun j e => .inl ((hS3.2.1 k hk).block j e)), (hgr.block _ (Array.getElem?_eq_some_iff.1 hC3.2.1).1 (fun e => by have := (hown0 _ e.symm).2; omega)).trans hC3.2.1, Nat.le_trans hC3.2.2 hgr.size⟩
      have hS6 := hS3.store hp hk hrow hgr hown
      have hp5 : w5.heap[p]? = some (.cells (cells10 vs) 32 (0, 0)) := (hgr.block p (Array.getElem?_eq_some_iff.1 hS3.1).1 (fun e => by have := (hown0 _ e.symm).1; omega)).trans hS3.1
      have cp5 : w5.cell? ⟨p, k, none⟩ = some (vs k) := by rw [cell_of_row _ _ _ _ _ _ hp5]; exact cells10_get vs hk
      have zp5 : w5.frozen? ⟨p, k, none⟩ = false := frozen_of_row _ _ _ _ _ hp5
      have hgs := grown_setCellP w5 ⟨p, k, none⟩ v'
      have hC6 : InAdd base p w.heap.size f w (w5.setCell ⟨p, k, none⟩ v') := ⟨hC5.1.grown hgs hC5.2.2 (fun j e => by cases e; exact .inr rfl), (hgs.block _ (Array.getElem?_eq_some_iff.1 hC5.2.1).1 (fun e => by have := Option.some.inj e; simp at this; omega)).trans hC5.2.1, Nat.le_trans hC5.2.2 hgs.size⟩
      obtain ⟨A', cap', hv', -, -⟩ := RowA.slice hrow
      rw [hv] at happ
      refine mix_append2 _ _ _ (by rfl) _ _ (by rfl) (by rfl) happ (by rfl) hC5 ?_
      simp only [Act.put, List.setIfInBounds_toArray, List.set_cons_zero, List.set_cons_succ]
      refine mix_val (.pointer (some ⟨p, k, none⟩)) (by rfl) (fun _ _ => by first | rfl | (go_simp; done)) ?_
      simp only [Act.put, List.setIfInBounds_toArray, List.set_cons_zero, List.set_cons_succ]
      refine mix_skip (w5.setCell ⟨p, k, none⟩ v') (by rfl) (by rw [hv']; go_simp) hC6 ?_
      simp only [Act.put]
      refine mix_done (P := Try.prog) (ops := #[]) (C := fun _ => True) ?_
      have HS6 := Lib.hid hS6
      have HC6 := Lib.hid hC6.1
      clear hS6 hC6 hgs zp5 cp5 hp5 hC5 hgr hrow happ hv' hown g3 hC3 hS3 hv hcap hptr hc hS hone
      generalize w5.setCell ⟨p, k, none⟩ v' = W6 at *
      go_wp2_with fail
      go_end0
      exact ⟨rfl, ⟨_, HS6.out⟩, HC6.out⟩
    · refine wp_build_fact _ rfl f rfl ⟨hC2.below b3, ?_⟩
      simp only [Act.put, List.setIfInBounds_toArray, List.set_cons_zero, List.set_cons_succ]
      have hC3 := hC2.below b3
      have hS3 := hS2.below b3
      have cp3 := hS3.cell hk
      rw [hv] at cp3
      refine any_of_one' 3 (by kernel_rfl) (by rfl) (by rfl) ?_
      all_goals simp only [List.getElem_toArray, List.getElem_cons_succ, List.getElem_cons_zero]
      refine wp_of_val _ (.slice A (Ls k).length cap) (by go_simp) ⟨hC3, ?_⟩
      simp only [Act.put, List.setIfInBounds_toArray, List.set_cons_zero, List.set_cons_succ]
      clear cp2 cp3
      clear hC0 hS1 hC2 hS2 b3 hb2 hD0 cp0 b0 f0 hI0 hS0
      generalize w2.alloc (.cells (factC f.1 f.2) 29) = w3 at *
      generalize w2.heap.size = g at *
      refine any_of_rest (fun l => l.drop 7) [false, true, false] [7, 8, 9] (by kernel_rfl) (by kernel_rfl) (by kernel_rfl) (by kernel_rfl) (by kernel_rfl) hC3 ?_
      simp only [List.drop_succ_cons, List.drop_zero]
      obtain ⟨v', w5, happ, hrow, hgr, hown⟩ := appendA2 base w3 (hS3.2.1 k hk) f g g3 hC3.2.2 (by omega) 23
      have hC5 : InAdd base p w.heap.size f w w5 := ⟨hC3.1.grown hgr hC3.2.2 (fun j e => .inl ((hS3.2.1 k hk).block j e)), (hgr.block _ (Array.getElem?_eq_some_iff.1 hC3.2.1).1 (fun e => by have := (hown0 _ e.symm).2; omega)).trans hC3.2.1, Nat.le_trans hC3.2.2 hgr.size⟩
      have hS6 := hS3.store hp hk hrow hgr hown
      have hp5 : w5.heap[p]? = some (.cells (cells10 vs) 32 (0, 0)) := (hgr.block p (Array.getElem?_eq_some_iff.1 hS3.1).1 (fun e => by have := (hown0 _ e.symm).1; omega)).trans hS3.1
      have cp5 : w5.cell? ⟨p, k, none⟩ = some (vs k) := by rw [cell_of_row _ _ _ _ _ _ hp5]; exact cells10_get vs hk
      have zp5 : w5.frozen? ⟨p, k, none⟩ = false := frozen_of_row _ _ _ _ _ hp5
      have hgs := grown_setCellP w5 ⟨p, k, none⟩ v'
      have hC6 : InAdd base p w.heap.size f w (w5.setCell ⟨p, k, none⟩ v') := ⟨hC5.1.grown hgs hC5.2.2 (fun j e => by cases e; exact .inr rfl), (hgs.block _ (Array.getElem?_eq_some_iff.1 hC5.2.1).1 (fun e => by have := Option.some.inj e; simp at this; omega)).trans hC5.2.1, Nat.le_trans hC5.2.2 hgs.size⟩
      obtain ⟨A', cap', hv', -, -⟩ := RowA.slice hrow
      rw [hv] at happ
      refine mix_append2 _ _ _ (by rfl) _ _ (by rfl) (by rfl) happ (by rfl) hC5 ?_
      simp only [Act.put, List.setIfInBounds_toArray, List.set_cons_zero, List.set_cons_succ]
      refine mix_val (.pointer (some ⟨p, k, none⟩)) (by rfl) (fun _ _ => by first | rfl | (go_simp; done)) ?_
      simp only [Act.put, List.setIfInBounds_toArray, List.set_cons_zero, List.set_cons_succ]
      refine mix_skip (w5.setCell ⟨p, k, none⟩ v') (by rfl) (by rw [hv']; go_simp) hC6 ?_
      simp only [Act.put]
      refine mix_done (P := Try.prog) (ops := #[]) (C := fun _ => True) ?_
      have HS6 := Lib.hid hS6
      have HC6 := Lib.hid hC6.1
      clear hS6 hC6 hgs zp5 cp5 hp5 hC5 hgr hrow happ hv' hown g3 hC3 hS3 hv hcap hptr hc hS hone
      generalize w5.setCell ⟨p, k, none⟩ v' = W6 at *
      go_wp2_with fail
      go_end0
      exact ⟨rfl, ⟨_, HS6.out⟩, HC6.out⟩
end Go.Proofs.Ytngkfopdlkddnaa
