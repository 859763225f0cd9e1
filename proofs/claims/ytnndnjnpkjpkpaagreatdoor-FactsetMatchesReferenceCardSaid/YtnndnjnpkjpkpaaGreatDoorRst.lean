/- The contract of the reference's put: an element goes to its place, unless its ID is there. -/
import Derived.Test.YtnndnjnpkjpkpaaGreatDoorRsq
import Derived.Test.YtnndnjnpkjpkpaaGreatDoorRsw
import Derived.Test.YtnndnjnpkjpkpaaGreatDoorMxp
namespace Go.Proofs.YtnndnjnpkjpkpaaGreatDoor
open Go Go.RowKit Go.Maps
/-- What a function keeps that writes a set of the reference's: all blocks but the set's own two. -/
def KeptR (w W' : World) (p : Nat) (v : Value) : Prop := W'.os = w.os ∧ W'.tape = w.tape ∧ W'.output = w.output ∧ w.heap.size ≤ W'.heap.size ∧ ∀ k, k < w.heap.size → k ≠ p → v.ownBlock ≠ some k → W'.heap[k]? = w.heap[k]?
theorem KeptR.of {w W' : World} (h : Below w.heap.size w W') (p : Nat) (v : Value) : KeptR w W' p v := ⟨h.os, h.tape, h.output, h.size, fun k hk _ _ => h.block k hk⟩
theorem KeptR.below {w W' : World} {p : Nat} {v : Value} (h : KeptR w W' p v) {b : Nat} (hb : b ≤ w.heap.size) (hp : b ≤ p) (hv : ∀ g, v.ownBlock = some g → b ≤ g) : Below b w W' :=
  ⟨h.1, h.2.1, h.2.2.1, h.2.2.2.1, fun k hk => h.2.2.2.2 k (by omega) (by omega) (fun e => by have := hv k e; omega)⟩
/-- The row afterwards: the old one, or a new one. -/
def Turned (w : World) (v v' : Value) : Prop := v'.ownBlock = v.ownBlock ∨ ∃ g, v'.ownBlock = some g ∧ w.heap.size ≤ g
theorem KeptR.trans {w w1 w2 : World} {p : Nat} {v v1 : Value} (h : KeptR w w1 p v) (k : KeptR w1 w2 p v1) (ht : Turned w v v1) : KeptR w w2 p v :=
  ⟨k.1.trans h.1, k.2.1.trans h.2.1, k.2.2.1.trans h.2.2.1, Nat.le_trans h.2.2.2.1 k.2.2.2.1, fun i hi hp hv =>
    (k.2.2.2.2 i (Nat.lt_of_lt_of_le hi h.2.2.2.1) hp (fun e => by
      rcases ht with h1 | ⟨g, h1, h2⟩
      · rw [h1] at e; exact hv e
      · rw [h1] at e; have := Option.some.inj e; omega)).trans (h.2.2.2.2 i hi hp hv)⟩
theorem Turned.trans {w w1 : World} {v v1 v2 : Value} (hw : w.heap.size ≤ w1.heap.size) (h : Turned w v v1) (k : Turned w1 v1 v2) : Turned w v v2 := by
  rcases k with k | ⟨g, k, hg⟩
  · rcases h with h | ⟨g, h, hg⟩
    · exact .inl (k.trans h)
    · exact .inr ⟨g, k.trans h, hg⟩
  · exact .inr ⟨g, k, Nat.le_trans hw hg⟩
theorem kept_row {w w1 w2 : World} {p : Nat} {v : Value} (h : KeptR w w1 p v) (hg : w1.grownBy w2 v.ownBlock) : KeptR w w2 p v :=
  ⟨hg.os.trans h.1, hg.tape.trans h.2.1, hg.output.trans h.2.2.1, Nat.le_trans h.2.2.2.1 hg.size, fun k hk hp hv => (hg.block k (Nat.lt_of_lt_of_le hk h.2.2.2.1) (fun e => hv e.symm)).trans (h.2.2.2.2 k hk hp hv)⟩
theorem kept_other {w w1 w2 : World} {p g : Nat} {v : Value} (h : KeptR w w1 p v) (hg : w1.grownBy w2 (some g)) (hgv : g = p ∨ v.ownBlock = some g ∨ w.heap.size ≤ g) : KeptR w w2 p v :=
  ⟨hg.os.trans h.1, hg.tape.trans h.2.1, hg.output.trans h.2.2.1, Nat.le_trans h.2.2.2.1 hg.size, fun k hk hp hv => (hg.block k (Nat.lt_of_lt_of_le hk h.2.2.2.1) (fun e => by
    have e2 := Option.some.inj e
    rcases hgv with h1 | h1 | h1
    · exact hp (by rw [e2, h1])
    · exact hv (by rw [e2, h1])
    · omega)).trans (h.2.2.2.2 k hk hp hv)⟩
/-- What a set holds when an element has been put. -/
def putX (es : List Ent) (x : El) : List Ent := if hasE es x.1 = true then es else putE x.1 (valF x.2) es
theorem infoE : (Tryz.prog.info? 69).map (fun i => (i.zero, i.size, i.bytes)) = some (some (.agg (elC zeroE)), 19, 168) := by kernel_rfl
theorem hiE (e : El) : (Tryz.prog.info? 69).map (·.size) = some (elC e).size := by
  have h := infoE
  cases hq : Tryz.prog.info? 69 with
  | none => rw [hq] at h; cases h
  | some i =>
    rw [hq] at h
    have h2 := congrArg (fun x => x.map (·.2.1)) h
    have h3 : i.size = 19 := by simpa using h2
    show some i.size = some 19
    rw [h3]
theorem build_el (e : El) (w : World) : (Instr.buildSlice 31 1 #[(0, .agg (elC e))]).run Tryz.prog w = .ok (.slice (some ⟨w.heap.size, 0, none⟩) 1 1) (w.alloc (.cells (elC e) 69)) := by
  obtain ⟨i0, hi, hz0, hz1, hz2⟩ := info_parts infoE
  refine run_buildSlice w _ _ 1 _ (elC e) i0 _ Tryz.underlying31 hi hz0 (by rw [hz1]; decide) (by rw [hz1]; decide) ?_
  rw [hz1]
  kernel_rfl
/-- An element is appended to the row. -/
theorem append_el (w : World) {v : Value} {l : List El} (hv : w.ownsRow 0 69 19 v l.length (cellsR l)) (e : El) (g : Nat) (hg : w.heap[g]? = some (.cells (elC e) 69 (0, 0))) (hlen : l.length ≤ 1000000) (ty : TypeId) :
    ∃ v' w', (Builtin.append_ #[31, 31] ty #[v, .slice (some ⟨g, 0, none⟩) 1 1]).run Tryz.prog w = .ok v' w' ∧ w'.ownsRow 0 69 19 v' (l ++ [e]).length (cellsR (l ++ [e])) ∧ w.grownBy w' v.ownBlock ∧ (v'.ownBlock = v.ownBlock ∨ v'.ownBlock = some w.heap.size) := by
  obtain ⟨i0, hi, hz0, hz1, hz2⟩ := info_parts infoE
  have hone := elC_one e
  have h19 : (elC e).toList.length = 1 * 19 := rfl
  obtain ⟨v', w', hr, ho, hgr, _, hb⟩ := run_append_own_at w 0 31 ty 69 i0 _ 19 168 Tryz.underlying31 hi hz0 hz1 hz2 rfl (by decide) v l.length (cellsR l) hv ⟨g, 0, none⟩ 1 1 (elC e).toList h19 (World.news_of_block hg)
    (fun u hu => Array.all_eq_true_iff_forall_mem.1 hone u (Array.mem_def.2 hu)) (by unfold maxLen; omega) (by omega) (Nat.zero_le _)
  refine ⟨v', w', hr, ?_, hgr, hb⟩
  rw [List.length_append, cellsR_snoc]
  exact ho
section
variable {P : Program} {md : Region.Mode} {ops : Array Oper} {C : World → Prop} {Q : Exit → Act → World → Prop}
/-- A beginning of quiet operations, in any order that the edges allow. -/
def preB (md : Region.Mode) (ops : Array Oper) : List Bool → List Nat → Array Bool → Array Bool → Bool
  | [], [], listed, listed' => decide (listed = listed')
  | true :: bs, k :: ks, listed, listed' => (Region.ready md ops listed).contains k && Region.free md ops listed k && preB md ops bs ks (listed.setIfInBounds k true) listed'
  | _, _, _, _ => false
/-- Where the beginning ends. -/
def EndsIn (T : Act → World → Prop) : Exit → Act → World → Prop
  | .normal, a, w => T a w
  | _, _, _ => True
theorem any_of_pre (hsel : Region.noSelect ops = true) (hQ : ∀ c o v a w, Q (.panic c) (Act.put a o v) w → Q (.panic c) a w) (rest : Nat) (listed' : Array Bool) (bs : List Bool) : ∀ (ks : List Nat) (l : List Oper) (listed : Array Bool) (a : Act) (w : World), (ks.map fun k => ops[k]?) = l.map some →
    preB md ops bs ks listed listed' = true → C w → wpMix P ops (EndsIn fun a w => wpAnyH P md ops Q C rest listed' a w) C bs l a w → wpAnyH P md ops Q C (l.length + rest) listed a w := by
  induction bs with
  | nil =>
    intro ks l listed a w hl hB _ h
    cases ks with
    | nil =>
      cases l with
      | nil =>
        have e : listed = listed' := by simpa [preB] using hB
        subst e
        rw [List.length_nil, Nat.zero_add]
        exact h
      | cons o l => simp at hl
    | cons k ks => simp [preB] at hB
  | cons b bs ih =>
    intro ks l listed a w hl hB hC h
    cases b with
    | false => cases ks <;> simp [preB] at hB
    | true =>
      cases ks with
      | nil => simp [preB] at hB
      | cons k ks =>
        cases l with
        | nil => simp at hl
        | cons o l =>
          simp only [List.map_cons, List.cons.injEq] at hl
          simp only [preB, Bool.and_eq_true] at hB
          obtain ⟨⟨hr, hf⟩, hB'⟩ := hB
          obtain ⟨v, hy, hK⟩ := h
          rw [List.length_cons, show l.length + 1 + rest = (l.length + rest) + 1 by omega]
          exact first_of hl.1 (Region.noSelect_spec hsel) (fun c a w => hQ c _ _ a w) _ listed a w (Region.free_spec hl.1 hf) (by simpa using hr) hy hC (ih ks l _ _ w hl.2 hB' hC hK)
/-- Two operations may come up. -/
theorem any_of_two {fuel : Nat} {listed : Array Bool} {a : Act} {w : World} (i j : Nat) {oi oj : Oper} (hr : Region.ready md ops listed = [i, j]) (hi : ops[i]? = some oi) (hj : ops[j]? = some oj) (wi : Region.wanted oi (yielded ops a.tmps) = true) (wj : Region.wanted oj (yielded ops a.tmps) = true)
    (h1 : oi.wp P a w (fun b w' => C w' ∧ wpAnyH P md ops Q C fuel (listed.setIfInBounds i true) b w') Q) (h2 : oj.wp P a w (fun b w' => C w' ∧ wpAnyH P md ops Q C fuel (listed.setIfInBounds j true) b w') Q) : wpAnyH P md ops Q C (fuel + 1) listed a w := by
  refine ⟨fun h => (by rw [hr] at h; cases h), fun k hk => ?_⟩
  rw [hr] at hk
  rcases List.mem_cons.1 hk with rfl | hk
  · unfold wpOp
    simp only [hi, wi, if_true]
    exact .inl h1
  · obtain rfl : k = j := by simpa using hk
    unfold wpOp
    simp only [hj, wj, if_true]
    exact .inl h2
theorem wp_of_val {o : Oper} {a : Act} {w : World} {K : Act → World → Prop} (w2 : World) (v : Value) (ho : (execOp a.eval o).run P w = .ok (.value v) w2) (k : K (a.put o.dst v) w2) : o.wp P a w K Q := by
  simp only [Oper.wp, ho, Oper.upon]
  exact k
theorem any_of_rest {lF : List Oper} {fuel : Nat} {listed : Array Bool} {a : Act} {w : World} (pick : List Oper → List Oper) (bs : List Bool) (ks : List Nat) (hsel : Region.noSelect lF.toArray = true) (hlen : bs.length = (pick lF).length) (hf : (pick lF).length = fuel)
    (hl : (ks.map fun k => lF.toArray[k]?) = (pick lF).map some) (hB : mixPB md lF.toArray bs ks listed = true) (hC : C w) (h : wpMix P lF.toArray (NoPanic Q) C bs (pick lF) a w) : wpAnyH P md lF.toArray (NoPanic Q) C fuel listed a w := by
  rw [← hf]
  exact any_of_mixP hsel (fun _ _ _ _ _ h => h) bs ks (pick lF) listed a w hlen hl hB hC h
theorem wp_region_pre {id : Nat} {a : Act} {w : World} {l : List Oper} (C D : World → Prop) (pick : List Oper → List Oper) (bs : List Bool) (ks : List Nat) (rest : Nat) (listed' : Array Bool) (hm : P.follows .mixedOrders = true) (hsel : Region.noSelect l.toArray = true)
    (hB : preB .any l.toArray bs ks (Array.replicate l.toArray.size false) listed' = true) (hl : (ks.map fun k => l.toArray[k]?) = (pick l).map some) (hn : (pick l).length + rest = l.toArray.size)
    (hC : C { w with drawn := w.drawn + 1 }) (hD : D { w with drawn := w.drawn + 1 }) (h : ∀ w', C w' → D w' → wpMix P l.toArray (EndsIn fun a w => wpAnyH P .any l.toArray (NoPanic Q) C rest listed' a w) C bs (pick l) a w') : (Code.region id l.toArray true).wp P Q a w := by
  refine wp_region_noPanic (wp_region_held (S := C) hm ?_)
  have h2 := any_of_pre hsel (fun _ _ _ _ _ h => h) rest listed' bs ks (pick l) _ a _ hl hB hC (h _ hC hD)
  rw [hn] at h2
  exact h2
end
section
variable {P : Program} {Q : Exit → Act → World → Prop}
theorem wp_region_mixD {id : Nat} {a : Act} {w : World} {l : List Oper} (C D : World → Prop) (bs : List Bool) (hm : P.follows .mixedOrders = true) (hB : (Region.noSelect l.toArray && (decide (bs.length = l.length) && mixB .any l.toArray bs 0 (Array.replicate l.toArray.size false))) = true)
    (hC : C { w with drawn := w.drawn + 1 }) (hD : D { w with drawn := w.drawn + 1 }) (h : ∀ w', C w' → D w' → wpMix P l.toArray (NoPanic Q) C bs l a w') : (Code.region id l.toArray true).wp P Q a w :=
  wp_region_mix C bs hm hB hC (h _ hC hD)
/-- A drawn region taken in the order that exchanges of neighbours make. -/
theorem wp_region_mixL {id : Nat} {a : Act} {w : World} {l : List Oper} (ss : List Nat) (C D : World → Prop) (bs : List Bool) (ks : List Nat) (hm : P.follows .mixedOrders = true) (hB : (Region.noSelect l.toArray && (decide (bs.length = (ss.foldl (fun l n => swapAt n l) l).length) && (decide ((ss.foldl (fun l n => swapAt n l) l).length = l.length) && mixPB .any l.toArray bs ks (Array.replicate l.toArray.size false)))) = true)
    (hl : (ks.map fun k => l.toArray[k]?) = (ss.foldl (fun l n => swapAt n l) l).map some)
    (hC : C { w with drawn := w.drawn + 1 }) (hD : D { w with drawn := w.drawn + 1 }) (h : ∀ w', C w' → D w' → wpMix P l.toArray (NoPanic Q) C bs (ss.foldl (fun l n => swapAt n l) l) a w') : (Code.region id l.toArray true).wp P Q a w :=
  wp_region_mixP C (ss.foldl (fun l n => swapAt n l) l) bs ks hm hB hl hC (h _ hC hD)
end
theorem grown_setCellP (w : World) (a : Addr) (u : Value) : w.grownBy (w.setCell a u) (some a.block) :=
  ⟨rfl, rfl, rfl, by simp, fun k hk hne => by
    have : k ≠ a.block := fun e => hne (by rw [e])
    simp only [World.setCell]
    rw [Array.getElem?_modify, if_neg (fun e => this e.symm)]⟩
theorem rset_row {w : World} {p q : Nat} {v : Value} {l : List El} (h : RSetAt w p v l) (hl : l ≠ []) (hq : v.ownBlock ≠ some q) : ∃ g cap cur, v = .slice (some ⟨g, 0, none⟩) l.length cap ∧ w.heap[g]? = some (.cells cur 69 (0, 0)) ∧ l.length ≤ cap ∧ cap ≤ maxLen ∧ cur.size = cap * 19 ∧ cur.toList.take (l.length * 19) = cellsR l ∧ g ≠ p ∧ g ≠ q := by
  rcases h.2.1.2 with ⟨_, h0⟩ | ⟨g, cap, cur, hv, _, hg, hn, hmx, hs, ht⟩
  · exact absurd (List.length_eq_zero_iff.1 h0) hl
  · exact ⟨g, cap, cur, hv, hg, hn, hmx, hs, ht, fun e => h.2.2 (by rw [hv, e]; rfl), fun e => hq (by rw [hv, e]; rfl)⟩
theorem rset_store {w : World} {p : Nat} {v v' : Value} {l : List El} (hp : w.heap[p]? = some (.cells #[v] 33 (0, 0))) (hr : w.ownsRow 0 69 19 v' l.length (cellsR l)) (hv : v'.ownBlock ≠ some p) : RSetAt (w.setCell ⟨p, 0, none⟩ v') p v' l := by
  refine ⟨?_, ⟨hr.1, ?_⟩, hv⟩
  · rw [setCell_eq_setRow w p 0 #[v] _ (0, 0) v' hp, setRow_heap _ _ _ _ _ _ hp]
    rfl
  · rcases hr.2 with h0 | ⟨g, cap, cur, e, hb, hg, r⟩
    · exact .inl h0
    · refine .inr ⟨g, cap, cur, e, hb, ?_, r⟩
      have hne : g ≠ p := fun h => hv (by rw [e, h]; rfl)
      rw [(grown_setCellP w ⟨p, 0, none⟩ v').block g (Array.getElem?_eq_some_iff.1 hg).1 (fun h => hne (Option.some.inj h))]
      exact hg
section
variable {ops : Array Oper} {C : World → Prop} {Q : Exit → Act → World → Prop}
theorem mix_append2 {P : Program} {o : Oper} {l : List Oper} {bs : List Bool} {a : Act} {w : World} (s x : Operand) (t : TypeId) (ho : o.op = .call { callee := .builtin .append, args := #[s, x], argTypes := #[t, t] }) (v u : Value) (hs : a.eval s = v) (hx : a.eval x = u) {v' : Value} {w' : World}
    (hr : (Builtin.append_ #[t, t] o.type #[v, u]).run P w = .ok v' w') (hw : Region.wanted o (yielded ops a.tmps) = true) (hc : C w') (k : wpMix P ops Q C bs l (a.put o.dst v') w') : wpMix P ops Q C (false :: bs) (o :: l) a w :=
  ⟨hw, wp_append_run s x t ho v u hs hx hr ⟨hc, k⟩⟩
theorem mix_copy {P : Program} {o : Oper} {l : List Oper} {bs : List Bool} {a : Act} {w : World} (s x : Operand) (t : TypeId) (ho : o.op = .call { callee := .builtin .copy, args := #[s, x], argTypes := #[t, t] }) (v u : Value) (hs : a.eval s = v) (hx : a.eval x = u) {v' : Value} {w' : World}
    (hr : (Builtin.copy_ #[t, t] o.type #[v, u]).run P w = .ok v' w') (hw : Region.wanted o (yielded ops a.tmps) = true) (hc : C w') (k : wpMix P ops Q C bs l (a.put o.dst v') w') : wpMix P ops Q C (false :: bs) (o :: l) a w := by
  refine ⟨hw, ?_⟩
  unfold Oper.wp execOp
  simp only [ho, resolve, invoke, builtin, Sem.run_bind, Sem.run_pure, Result.andThen_ok, List.map_toArray, List.map_cons, List.map_nil, hs, hx, hr]
  exact ⟨hc, k⟩
theorem mix_store_at {P : Program} {o : Oper} {l : List Oper} {bs : List Bool} {a : Act} {w : World} (ty : TypeId) (x y : Operand) (ho : o.op = .store ty x y) (p : Addr) (cells : Array Value) (hx : a.eval x = .pointer (some p)) (hy : a.eval y = .agg cells) {w2 : World}
    (hst : (storeVar ty p (.agg cells)).run P w = .ok () w2) (hw : Region.wanted o (yielded ops a.tmps) = true) (hc : C w2) (k : wpMix P ops Q C bs l (a.put o.dst undef) w2) : wpMix P ops Q C (false :: bs) (o :: l) a w := by
  refine ⟨hw, ?_⟩
  unfold Oper.wp execOp
  simp only [ho, hx, hy, Instr.storeAt, Instr.sureAddr, Sem.run_bind, Sem.run_pure, Result.andThen_ok, hst]
  exact ⟨hc, k⟩
theorem mix_skip {P : Program} {o : Oper} {l : List Oper} {bs : List Bool} {a : Act} {w : World} (w2 : World) (hw : Region.wanted o (yielded ops a.tmps) = true) (ho : (execOp a.eval o).run P w = .ok .skip w2) (hc : C w2) (k : wpMix P ops Q C bs l (a.put o.dst undef) w2) : wpMix P ops Q C (false :: bs) (o :: l) a w := by
  refine ⟨hw, ?_⟩
  simp only [Oper.wp, ho, Oper.upon]
  exact ⟨hc, k⟩
theorem mix_buildE {o : Oper} {l : List Oper} {bs : List Bool} {a : Act} {w : World} (x : Operand) (ho : o.op = .buildSlice 31 1 #[(0, x)]) (e : El) (hx : a.eval x = .agg (elC e)) (hw : Region.wanted o (yielded ops a.tmps) = true) (hc : C (w.alloc (.cells (elC e) 69)))
    (k : wpMix Tryz.prog ops Q C bs l (a.put o.dst (.slice (some ⟨w.heap.size, 0, none⟩) 1 1)) (w.alloc (.cells (elC e) 69))) : wpMix Tryz.prog ops Q C (false :: bs) (o :: l) a w := by
  refine ⟨hw, ?_⟩
  have hr := build_el e w
  generalize elC e = cs at *
  unfold Oper.wp execOp
  simp only [ho, hx, List.map_toArray, List.map_cons, List.map_nil, Sem.run_bind, Sem.run_pure, Result.andThen_ok, hr, Oper.upon]
  exact ⟨hc, k⟩
theorem wp_buildE {K : Act → World → Prop} {o : Oper} {a : Act} {w : World} (x : Operand) (ho : o.op = .buildSlice 31 1 #[(0, x)]) (e : El) (hx : a.eval x = .agg (elC e))
    (k : K (a.put o.dst (.slice (some ⟨w.heap.size, 0, none⟩) 1 1)) (w.alloc (.cells (elC e) 69))) : o.wp Tryz.prog a w K Q := by
  have hr := build_el e w
  generalize elC e = cs at *
  unfold Oper.wp execOp
  simp only [ho, hx, List.map_toArray, List.map_cons, List.map_nil, Sem.run_bind, Sem.run_pure, Result.andThen_ok, hr, Oper.upon]
  exact k
theorem mix_load_el {o : Oper} {l : List Oper} {bs : List Bool} {a : Act} {w : World} (hw : Region.wanted o (yielded ops a.tmps) = true) (x : Operand) (ho : o.op = .load 69 x) (g : Nat) (hx : a.eval x = .pointer (some ⟨g, 0, none⟩)) (e : El)
    (hv : ∀ w', C w' → w'.heap[g]? = some (.cells (elC e) 69 (0, 0))) (k : wpMix Tryz.prog ops Q C bs l (a.put o.dst (.agg (elC e))) w) : wpMix Tryz.prog ops Q C (true :: bs) (o :: l) a w :=
  mix_val _ hw (fun w' hc => by
    unfold execOp
    simp only [ho, hx, Instr.loadAt, Instr.sureAddr, Sem.run_bind, Sem.run_pure, Result.andThen_ok, run_loadVar_row w' g 69 69 (elC e) (0, 0) _ (hv w' hc) Tryz.underlying69 rfl (hiE e)]) k
theorem mix_load_sl {o : Oper} {l : List Oper} {bs : List Bool} {a : Act} {w : World} (hw : Region.wanted o (yielded ops a.tmps) = true) (x : Operand) (ho : o.op = .load 31 x) (p : Addr) (hx : a.eval x = .pointer (some p)) (v : Value)
    (hv : ∀ w', C w' → w'.cell? p = some v) (hsl : ∃ A n c, v = .slice A n c) (k : wpMix Tryz.prog ops Q C bs l (a.put o.dst v) w) : wpMix Tryz.prog ops Q C (true :: bs) (o :: l) a w :=
  mix_val v hw (fun w' hc => by
    have h := hv w' hc
    obtain ⟨A, n, c, rfl⟩ := hsl
    unfold execOp
    simp only [ho, hx]
    go_simp) k
end
set_option maxRecDepth 100000 in
set_option maxHeartbeats 4000000 in
theorem rput_calls (p : Nat) (v : Value) (l : List El) (x : El) (w : World) (hS : RSetAt w p v l) (hA : Asc (esR l)) (hn : l.length ≤ 100000) :
    Calls Tryz.prog 35 #[.pointer (some ⟨p, 0, none⟩), .agg (elC x)] w fun e W' => e = .returned (.tuple #[]) ∧ ∃ v' l', RSetAt W' p v' l' ∧ esR l' = putX (esR l) x ∧ Turned w v v' ∧ KeptR w W' p v := by
  have hd : (⟨x.1.toArray⟩ : ByteArray).data.toList = x.1 := by simp
  have hbox : Below w.heap.size w (w.alloc (.cells (elC x) 69)) := (Below.refl _ w).alloc (Nat.le_refl _) _
  have f0 := heap_new w (.cells (elC x) 69)
  obtain ⟨w1, hw1⟩ : ∃ w1, w.alloc (.cells (elC x) 69) = w1 := ⟨_, rfl⟩
  rw [hw1] at hbox f0
  have hS1 := hS.below hbox
  have HH := Lib.hid (rHas_calls p v l ⟨x.1.toArray⟩ w1 hS1 hA (by omega))
  have HP := Lib.hid (place_calls p v l ⟨x.1.toArray⟩ w1 hS1 hA (by omega))
  rw [hd] at HH HP
  have hpl := hS.ltp
  have hvl := Lib.hid (fun g (e : v.ownBlock = some g) => hS.ltv e)
  have c0 : w1.cell? ⟨w.heap.size, 0, none⟩ = some (.string ⟨x.1.toArray⟩) := by rw [cell_of_row _ _ _ _ _ _ f0]; rfl
  have S := Lib.hid hS1
  have B := Lib.hid hbox
  have F0 := Lib.hid f0
  have HW := Lib.hid hw1
  clear hS hA hd hbox f0 hS1
  generalize hcs : elC x = cs at hw1
  go_enter Tryz.func35, Tryz.ntmps35
  go_wp2_with fail
  refine HH.out.mono ?_
  rintro e W1 ⟨rfl, rfl⟩
  clear HH
  cases hh : hasE (esR l) x.1 with
  | true =>
    go_wp2_with fail
    refine bodyPost_ret (v := .tuple #[]) (results_none rfl _ _ _) rfl ?_
    exact ⟨rfl, v, l, S.out, by unfold putX; rw [if_pos hh], .inl rfl, KeptR.of B.out p v⟩
  | false =>
    go_wp2_with fail
    refine HP.out.mono ?_
    rintro e W1 ⟨⟨m, rfl, hP⟩, rfl⟩
    have hml := hP.1
    have HPut := Lib.hid (put_at hP hh)
    have Hhh := Lib.hid hh
    clear HP hP
    have m0 : (0 : Int) ≤ (m : Int) := by omega
    go_upto_region 3 with (fail)
    subst hcs
    try simp only [List.append_eq, List.cons_append, List.nil_append]
    refine wp_region_pre (fun w' => w'.heap[w.heap.size]? = some (.cells (elC x) 69 (0, 0))) (fun w' => Below w1.heap.size w1 w') (fun l => (swapAt 4 l).take 5) [true, true, true, true, true] [0, 1, 2, 3, 5] 6 #[true, true, true, true, false, true, false, false, false, false, false] (by kernel_rfl) (by kernel_rfl) (by kernel_rfl) (by kernel_rfl) (by kernel_rfl) F0.out (Below.drew (Below.refl _ _)) ?_
    intro w0 hC0 hD0
    simp only [swapAt, List.take_succ_cons, List.take_zero]
    refine mix_val (.pointer (some ⟨p, 0, none⟩)) (by rfl) (fun _ _ => by first | rfl | (go_simp; done) | (go_simp; omega)) ?_
    simp only [Act.put, List.setIfInBounds_toArray, List.set_cons_zero, List.set_cons_succ]
    refine mix_val (.pointer (some ⟨p, 0, none⟩)) (by rfl) (fun _ _ => by first | rfl | (go_simp; done) | (go_simp; omega)) ?_
    simp only [Act.put, List.setIfInBounds_toArray, List.set_cons_zero, List.set_cons_succ]
    refine mix_val (.pointer (some ⟨p, 0, none⟩)) (by rfl) (fun _ _ => by first | rfl | (go_simp; done) | (go_simp; omega)) ?_
    simp only [Act.put, List.setIfInBounds_toArray, List.set_cons_zero, List.set_cons_succ]
    refine mix_val (.pointer (some ⟨p, 0, none⟩)) (by rfl) (fun _ _ => by first | rfl | (go_simp; done) | (go_simp; omega)) ?_
    simp only [Act.put, List.setIfInBounds_toArray, List.set_cons_zero, List.set_cons_succ]
    refine mix_load_el (by rfl) _ rfl w.heap.size rfl x (fun w' hc => hc) ?_
    simp only [Act.put, List.setIfInBounds_toArray, List.set_cons_zero, List.set_cons_succ]
    have S0 := S.out.below hD0
    have cp := S0.cell
    have hsl : ∃ A n c, v = .slice A n c := by obtain ⟨A, c, e, _⟩ := S0.reads; exact ⟨A, _, c, e⟩
    have hwl : w.heap.size < w0.heap.size := (Array.getElem?_eq_some_iff.1 hC0).1
    have b2 : Below w0.heap.size w0 (w0.alloc (.cells (elC x) 69)) := (Below.refl _ w0).alloc (Nat.le_refl _) _
    have hC1 := (b2.block _ hwl).trans hC0
    have S1 := S0.below b2
    have cp1 := S1.cell
    have hb2 := b2.size
    have hbe := build_el x w0
    have hvw : ∀ q, v.ownBlock = some q → q < w.heap.size := hvl.out
    have hz0 : w.heap.size ≤ w0.heap.size := by omega
    obtain ⟨v', w3, happ, hrow3, hg3, htn⟩ := append_el _ S1.2.1 x w0.heap.size (heap_new w0 _) (by omega) 31
    have hC3 : w3.heap[w.heap.size]? = some (.cells (elC x) 69 (0, 0)) := (hg3.block _ (by omega) (fun e => by have := hvw _ e.symm; omega)).trans hC1
    show wpAnyH _ _ _ _ _ 6 _ _ _
    refine any_of_two 4 6 (by kernel_rfl) (by rfl) (by rfl) (by rfl) (by rfl) ?_ ?_
    all_goals simp only [List.getElem_toArray, List.getElem_cons_succ, List.getElem_cons_zero]
    · refine wp_of_val w0 v (by obtain ⟨A, n, c, rfl⟩ := hsl; go_simp) ⟨hC0, ?_⟩
      simp only [Act.put, List.setIfInBounds_toArray, List.set_cons_zero, List.set_cons_succ]
      refine any_of_rest (fun l => l.drop 6) [false, false, true, true, false] [6, 7, 8, 9, 10] (by kernel_rfl) (by kernel_rfl) (by kernel_rfl) (by kernel_rfl) (by kernel_rfl) hC0 ?_
      simp only [List.drop_succ_cons, List.drop_zero]
      refine mix_buildE _ (by rfl) x (by rfl) (by rfl) hC1 ?_
      simp only [Act.put, List.setIfInBounds_toArray, List.set_cons_zero, List.set_cons_succ]
      refine mix_append2 _ _ _ (by rfl) _ _ (by rfl) (by rfl) happ (by rfl) hC3 ?_
      simp only [Act.put, List.setIfInBounds_toArray, List.set_cons_zero, List.set_cons_succ]
      have hvp : v.ownBlock ≠ some p := S1.2.2
      have hp3 : w3.heap[p]? = some (.cells #[v] 33 (0, 0)) := (hg3.block _ (S1.ltp) (fun e => hvp e.symm)).trans S1.1
      have cp3 : w3.cell? ⟨p, 0, none⟩ = some v := by rw [cell_of_row _ _ _ _ _ _ hp3]; rfl
      have zp3 : w3.frozen? ⟨p, 0, none⟩ = false := frozen_of_row _ _ _ _ _ hp3
      have htv : v'.ownBlock = v.ownBlock ∨ v'.ownBlock = some (w0.alloc (.cells (elC x) 69)).heap.size := htn
      have hTn : Turned w v v' := htv.elim .inl (fun h => .inr ⟨_, h, by have := b2.size; omega⟩)
      have hvp3 : v'.ownBlock ≠ some p := fun e => by
        rcases htv with h | h
        · rw [h] at e; exact hvp e
        · rw [h] at e; have h2 := Option.some.inj e; have := b2.size; omega
      have hvx : v'.ownBlock ≠ some w.heap.size := fun e => by
        rcases htv with h | h
        · rw [h] at e; have := hvw _ e; omega
        · rw [h] at e; have h2 := Option.some.inj e; have := b2.size; omega
      refine mix_val (.pointer (some ⟨p, 0, none⟩)) (by rfl) (fun _ _ => by first | rfl | (go_simp; done) | (go_simp; omega)) ?_
      simp only [Act.put, List.setIfInBounds_toArray, List.set_cons_zero, List.set_cons_succ]
      refine mix_val (.pointer (some ⟨p, 0, none⟩)) (by rfl) (fun _ _ => by first | rfl | (go_simp; done) | (go_simp; omega)) ?_
      simp only [Act.put, List.setIfInBounds_toArray, List.set_cons_zero, List.set_cons_succ]
      have hset3 : RSetAt (w3.setCell ⟨p, 0, none⟩ v') p v' (l ++ [x]) := rset_store hp3 hrow3 hvp3
      have hsl3 : ∃ A n c, v' = .slice A n c := by obtain ⟨A, c, e, _⟩ := hset3.reads; exact ⟨A, _, c, e⟩
      have hgp := grown_setCellP w3 ⟨p, 0, none⟩ v'
      have hx3l : w.heap.size < w3.heap.size := (Array.getElem?_eq_some_iff.1 hC3).1
      have hC4 : (w3.setCell ⟨p, 0, none⟩ v').heap[w.heap.size]? = some (.cells (elC x) 69 (0, 0)) := (hgp.block _ hx3l (fun e => by have := Option.some.inj e; simp at this; omega)).trans hC3
      refine mix_skip (w3.setCell ⟨p, 0, none⟩ v') (by rfl) (by obtain ⟨A, n, c, rfl⟩ := hsl3; go_simp) hC4 ?_
      simp only [Act.put]
      refine mix_done (P := Tryz.prog) (ops := #[]) (C := fun _ => True) ?_
      have hK3 : KeptR w (w3.setCell ⟨p, 0, none⟩ v') p v := kept_other (kept_row (KeptR.of ((B.out.trans (hD0.mono B.out.size)).trans (b2.mono hz0)) p v) hg3) hgp (.inl rfl)
      obtain ⟨W3, hW3⟩ : ∃ W3, w3.setCell ⟨p, 0, none⟩ v' = W3 := ⟨_, rfl⟩
      rw [hW3] at hset3 hC4 hK3 ⊢
      have F3 := Lib.hid hC4
      have K3 := Lib.hid hK3
      have HTn := Lib.hid hTn
      clear hW3 hgp hsl3 hvp3 htv hp3 cp3 zp3 hC3 hx3l hg3 hrow3 happ htn hbe hb2 cp1 S1 hC1 b2 cp S0 hD0 hC0 hwl hsl hC4 hK3 hTn hz0 c0 HW S B F0 hvp
      obtain ⟨g, cap, cur, rfl, hg, hcap, hmx, hsz, htk, hgp, hgx⟩ := rset_row hset3 (by simp) hvx
      have hlen : (l ++ [x]).length = l.length + 1 := by simp
      rw [hlen] at hcap htk hset3 ⊢
      have cp := hset3.cell
      have Hset3 := Lib.hid hset3
      clear hset3 hvx
      have HP3 := Lib.hid Hset3.out.1
      have hgl : g < W3.heap.size := (Array.getElem?_eq_some_iff.1 hg).1
      have k1 : (0 : Int) ≤ (m : Int) + 1 := by omega
      have k2 : (m : Int) + 1 ≤ ((l.length + 1 : Nat) : Int) := by omega
      have k3 : ((l.length + 1 : Nat) : Int) ≤ (cap : Int) := by omega
      have k4 : (m : Int) ≤ ((l.length + 1 : Nat) : Int) := by omega
      have k5 : ((m : Int) + 1).toNat = m + 1 := by omega
      have k6 : ¬ cap = m := by omega
      have k7 : IntKind.i64.wrap ((m : Int) + 1) = (m : Int) + 1 := IntWalk.i64_in _ (by omega)
      have Hg := Lib.hid hg
      clear hg
      by_cases hcm : cap = m + 1
      · have q0 : l.length = m := by omega
        have Q0 := Lib.hid q0
        clear q0
        go_upto_region 4 with (fail)
        try simp only [List.append_eq, List.cons_append, List.nil_append]
        refine wp_region_mixD (fun w' => w'.heap[p]? = some (.cells #[(.slice (some ⟨g, 0, none⟩) (l.length + 1) cap)] 33 (0, 0))) (fun w' => Below W3.heap.size W3 w') [true, true, true, true, true, true, true, true, true, true, true, true, true, false] (by kernel_rfl) (by kernel_rfl) HP3.out (Below.drew (Below.refl _ _)) ?_
        intro w4 hC4 hD4
        refine mix_val (.pointer (some ⟨p, 0, none⟩)) (by rfl) (fun _ _ => by first | rfl | (go_simp; done) | (go_simp; omega)) ?_
        simp only [Act.put, List.setIfInBounds_toArray, List.set_cons_zero, List.set_cons_succ]
        refine mix_val (.pointer (some ⟨p, 0, none⟩)) (by rfl) (fun _ _ => by first | rfl | (go_simp; done) | (go_simp; omega)) ?_
        simp only [Act.put, List.setIfInBounds_toArray, List.set_cons_zero, List.set_cons_succ]
        refine mix_val (.pointer (some ⟨p, 0, none⟩)) (by rfl) (fun _ _ => by first | rfl | (go_simp; done) | (go_simp; omega)) ?_
        simp only [Act.put, List.setIfInBounds_toArray, List.set_cons_zero, List.set_cons_succ]
        refine mix_load_sl (by rfl) _ rfl ⟨p, 0, none⟩ rfl (.slice (some ⟨g, 0, none⟩) (l.length + 1) cap) (fun w' hc => by rw [cell_of_row _ _ _ _ _ _ hc]; rfl) ⟨_, _, _, rfl⟩ ?_
        simp only [Act.put, List.setIfInBounds_toArray, List.set_cons_zero, List.set_cons_succ]
        refine mix_val (.int .i64 (m : Int)) (by rfl) (fun _ _ => by first | rfl | (go_simp; done) | (go_simp; omega)) ?_
        simp only [Act.put, List.setIfInBounds_toArray, List.set_cons_zero, List.set_cons_succ]
        refine mix_val (.int .i64 ((m : Int) + 1)) (by rfl) (fun _ _ => by first | rfl | (go_simp; done) | (go_simp; omega)) ?_
        simp only [Act.put, List.setIfInBounds_toArray, List.set_cons_zero, List.set_cons_succ]
        refine mix_val (.slice (some ⟨g, 0, none⟩) (l.length + 1 - (m + 1)) (cap - (m + 1))) (by rfl) (fun _ _ => by first | rfl | (go_simp; done) | (go_simp; omega)) ?_
        simp only [Act.put, List.setIfInBounds_toArray, List.set_cons_zero, List.set_cons_succ]
        refine mix_val (.pointer (some ⟨p, 0, none⟩)) (by rfl) (fun _ _ => by first | rfl | (go_simp; done) | (go_simp; omega)) ?_
        simp only [Act.put, List.setIfInBounds_toArray, List.set_cons_zero, List.set_cons_succ]
        refine mix_val (.pointer (some ⟨p, 0, none⟩)) (by rfl) (fun _ _ => by first | rfl | (go_simp; done) | (go_simp; omega)) ?_
        simp only [Act.put, List.setIfInBounds_toArray, List.set_cons_zero, List.set_cons_succ]
        refine mix_val (.pointer (some ⟨p, 0, none⟩)) (by rfl) (fun _ _ => by first | rfl | (go_simp; done) | (go_simp; omega)) ?_
        simp only [Act.put, List.setIfInBounds_toArray, List.set_cons_zero, List.set_cons_succ]
        refine mix_load_sl (by rfl) _ rfl ⟨p, 0, none⟩ rfl (.slice (some ⟨g, 0, none⟩) (l.length + 1) cap) (fun w' hc => by rw [cell_of_row _ _ _ _ _ _ hc]; rfl) ⟨_, _, _, rfl⟩ ?_
        simp only [Act.put, List.setIfInBounds_toArray, List.set_cons_zero, List.set_cons_succ]
        refine mix_val (.int .i64 (m : Int)) (by rfl) (fun _ _ => by first | rfl | (go_simp; done) | (go_simp; omega)) ?_
        simp only [Act.put, List.setIfInBounds_toArray, List.set_cons_zero, List.set_cons_succ]
        refine mix_val (.slice (some ⟨g, m * 19, none⟩) (l.length + 1 - m) (cap - m)) (by rfl) (fun _ _ => by first | rfl | (go_simp; done) | (go_simp; omega)) ?_
        simp only [Act.put, List.setIfInBounds_toArray, List.set_cons_zero, List.set_cons_succ]
        have hg4 : w4.heap[g]? = some (.cells cur 69 (0, 0)) := (hD4.block _ hgl).trans Hg.out
        obtain ⟨kc, c2, hcp, hz2, hl2⟩ := copy_shift hg4 (m := m) hml hcap hsz htk 3 0 (.inr ⟨rfl, Q0.out.symm⟩)
        have hgs := grownBy_setRow w4 g c2
        have hpl4 : p < w4.heap.size := (Array.getElem?_eq_some_iff.1 hC4).1
        have hC5 : (w4.setRow g c2).heap[p]? = some (.cells #[(.slice (some ⟨g, 0, none⟩) (l.length + 1) cap)] 33 (0, 0)) := (hgs.block p hpl4 (fun e => hgp (Option.some.inj e).symm)).trans hC4
        refine mix_copy _ _ _ (by rfl) _ _ (by rfl) (by rfl) hcp (by rfl) hC5 ?_
        simp only [Act.put, List.setIfInBounds_toArray, List.set_cons_zero, List.set_cons_succ]
        refine mix_done (P := Tryz.prog) (ops := #[]) (C := fun _ => True) ?_
        have hx5 : (w4.setRow g c2).heap[w.heap.size]? = some (.cells (elC x) 69 (0, 0)) := by
          have hxl := (Array.getElem?_eq_some_iff.1 F3.out).1
          have hx4 := (hD4.block _ hxl).trans F3.out
          exact (hgs.block _ (Array.getElem?_eq_some_iff.1 hx4).1 (fun e => hgx (Option.some.inj e).symm)).trans hx4
        have hgv : (g = p ∨ v.ownBlock = some g ∨ w.heap.size ≤ g) := by
          rcases HTn.out with h | ⟨g2, h, h2⟩
          · exact .inr (.inl h.symm)
          · have h3 : g = g2 := Option.some.inj h
            exact .inr (.inr (by omega))
        have Hgv := Lib.hid hgv
        clear hgv
        have hK5 : KeptR w (w4.setRow g c2) p v := kept_other (KeptR.trans K3.out (KeptR.of hD4 p _) HTn.out) hgs Hgv.out
        have hg5 := setRow_heap w4 g cur c2 69 (0, 0) hg4
        obtain ⟨W5, hW5⟩ : ∃ W5, w4.setRow g c2 = W5 := ⟨_, rfl⟩
        rw [hW5] at hC5 hx5 hK5 hg5 ⊢
        have P5 := Lib.hid hC5
        have X5 := Lib.hid hx5
        have K5 := Lib.hid hK5
        have G5 := Lib.hid hg5
        have HL2 := Lib.hid hl2
        clear hW5 hgs hcp hg4 hC4 hD4 hl2 hC5 hx5 hK5 hg5 hpl4
        go_upto_region 5 with (fail)
        try simp only [List.append_eq, List.cons_append, List.nil_append]
        refine wp_region_mixD (fun w' => w'.heap[p]? = some (.cells #[(.slice (some ⟨g, 0, none⟩) (l.length + 1) cap)] 33 (0, 0)) ∧ w'.heap[w.heap.size]? = some (.cells (elC x) 69 (0, 0))) (fun w' => Below W5.heap.size W5 w') [true, true, true, true, true, true, true, false] (by kernel_rfl) (by kernel_rfl) ⟨P5.out, X5.out⟩ (Below.drew (Below.refl _ _)) ?_
        intro w6 hC6 hD6
        refine mix_val (.pointer (some ⟨p, 0, none⟩)) (by rfl) (fun _ _ => by first | rfl | (go_simp; done) | (go_simp; omega)) ?_
        simp only [Act.put, List.setIfInBounds_toArray, List.set_cons_zero, List.set_cons_succ]
        refine mix_val (.pointer (some ⟨p, 0, none⟩)) (by rfl) (fun _ _ => by first | rfl | (go_simp; done) | (go_simp; omega)) ?_
        simp only [Act.put, List.setIfInBounds_toArray, List.set_cons_zero, List.set_cons_succ]
        refine mix_val (.pointer (some ⟨p, 0, none⟩)) (by rfl) (fun _ _ => by first | rfl | (go_simp; done) | (go_simp; omega)) ?_
        simp only [Act.put, List.setIfInBounds_toArray, List.set_cons_zero, List.set_cons_succ]
        refine mix_load_sl (by rfl) _ rfl ⟨p, 0, none⟩ rfl (.slice (some ⟨g, 0, none⟩) (l.length + 1) cap) (fun w' hc => by rw [cell_of_row _ _ _ _ _ _ hc.1]; rfl) ⟨_, _, _, rfl⟩ ?_
        simp only [Act.put, List.setIfInBounds_toArray, List.set_cons_zero, List.set_cons_succ]
        refine mix_val (.int .i64 (m : Int)) (by rfl) (fun _ _ => by first | rfl | (go_simp; done) | (go_simp; omega)) ?_
        simp only [Act.put, List.setIfInBounds_toArray, List.set_cons_zero, List.set_cons_succ]
        refine mix_load_el (by rfl) _ rfl w.heap.size rfl x (fun w' hc => hc.2) ?_
        simp only [Act.put, List.setIfInBounds_toArray, List.set_cons_zero, List.set_cons_succ]
        have k8 : (m : Int) < ((l.length + 1 : Nat) : Int) := by omega
        refine mix_val (.pointer (some ⟨g, m * 19, none⟩)) (by rfl) (fun _ _ => by first | rfl | (go_simp; done) | (go_simp; omega)) ?_
        simp only [Act.put, List.setIfInBounds_toArray, List.set_cons_zero, List.set_cons_succ]
        have hg6 : w6.heap[g]? = some (.cells c2 69 (0, 0)) := (hD6.block _ (Array.getElem?_eq_some_iff.1 G5.out).1).trans G5.out
        obtain ⟨c3, hst, hz3, hl3⟩ := store_shift hg6 hml hcap hsz htk hz2 HL2.out
        have hgs := grownBy_setRow w6 g c3
        have hpl6 : p < w6.heap.size := (Array.getElem?_eq_some_iff.1 hC6.1).1
        have hxl6 : w.heap.size < w6.heap.size := (Array.getElem?_eq_some_iff.1 hC6.2).1
        have hp7 := (hgs.block p hpl6 (fun e => hgp (Option.some.inj e).symm)).trans hC6.1
        have hx7 := (hgs.block _ hxl6 (fun e => hgx (Option.some.inj e).symm)).trans hC6.2
        refine mix_store_at 69 _ _ (by rfl) ⟨g, m * 19, none⟩ (elC x) (by rfl) (by rfl) hst (by rfl) ⟨hp7, hx7⟩ ?_
        simp only [Act.put]
        refine mix_done (P := Tryz.prog) (ops := #[]) (C := fun _ => True) ?_
        have hg7 := setRow_heap w6 g c2 c3 69 (0, 0) hg6
        have hK7 : KeptR w (w6.setRow g c3) p v := kept_other (KeptR.trans K5.out (KeptR.of hD6 p _) HTn.out) hgs Hgv.out
        have hl9 : (l.take m ++ x :: l.drop m).length = l.length + 1 := by rw [List.length_append, List.length_cons, List.length_take, List.length_drop]; omega
        go_wp2_with fail
        go_end0
        refine ⟨rfl, .slice (some ⟨g, 0, none⟩) (l.length + 1) cap, l.take m ++ x :: l.drop m, ⟨hp7, ⟨by rw [cellsR_length], .inr ⟨g, cap, c3, by rw [hl9], Nat.zero_le _, hg7, by rw [hl9]; exact hcap, hmx, hz3, by rw [hl9]; exact hl3⟩⟩, fun e => hgp (Option.some.inj e)⟩, ?_, HTn.out, hK7⟩
        unfold putX
        rw [if_neg (by rw [Hhh.out]; decide)]
        exact HPut.out
      · have q0 := hcm
        clear q0
        go_upto_region 4 with (fail)
        try simp only [List.append_eq, List.cons_append, List.nil_append]
        refine wp_region_mixD (fun w' => w'.heap[p]? = some (.cells #[(.slice (some ⟨g, 0, none⟩) (l.length + 1) cap)] 33 (0, 0))) (fun w' => Below W3.heap.size W3 w') [true, true, true, true, true, true, true, true, true, true, true, true, true, false] (by kernel_rfl) (by kernel_rfl) HP3.out (Below.drew (Below.refl _ _)) ?_
        intro w4 hC4 hD4
        refine mix_val (.pointer (some ⟨p, 0, none⟩)) (by rfl) (fun _ _ => by first | rfl | (go_simp; done) | (go_simp; omega)) ?_
        simp only [Act.put, List.setIfInBounds_toArray, List.set_cons_zero, List.set_cons_succ]
        refine mix_val (.pointer (some ⟨p, 0, none⟩)) (by rfl) (fun _ _ => by first | rfl | (go_simp; done) | (go_simp; omega)) ?_
        simp only [Act.put, List.setIfInBounds_toArray, List.set_cons_zero, List.set_cons_succ]
        refine mix_val (.pointer (some ⟨p, 0, none⟩)) (by rfl) (fun _ _ => by first | rfl | (go_simp; done) | (go_simp; omega)) ?_
        simp only [Act.put, List.setIfInBounds_toArray, List.set_cons_zero, List.set_cons_succ]
        refine mix_load_sl (by rfl) _ rfl ⟨p, 0, none⟩ rfl (.slice (some ⟨g, 0, none⟩) (l.length + 1) cap) (fun w' hc => by rw [cell_of_row _ _ _ _ _ _ hc]; rfl) ⟨_, _, _, rfl⟩ ?_
        simp only [Act.put, List.setIfInBounds_toArray, List.set_cons_zero, List.set_cons_succ]
        refine mix_val (.int .i64 (m : Int)) (by rfl) (fun _ _ => by first | rfl | (go_simp; done) | (go_simp; omega)) ?_
        simp only [Act.put, List.setIfInBounds_toArray, List.set_cons_zero, List.set_cons_succ]
        refine mix_val (.int .i64 ((m : Int) + 1)) (by rfl) (fun _ _ => by first | rfl | (go_simp; done) | (go_simp; omega)) ?_
        simp only [Act.put, List.setIfInBounds_toArray, List.set_cons_zero, List.set_cons_succ]
        refine mix_val (.slice (some ⟨g, (m + 1) * 19, none⟩) (l.length + 1 - (m + 1)) (cap - (m + 1))) (by rfl) (fun _ _ => by first | rfl | (go_simp; done) | (go_simp; omega)) ?_
        simp only [Act.put, List.setIfInBounds_toArray, List.set_cons_zero, List.set_cons_succ]
        refine mix_val (.pointer (some ⟨p, 0, none⟩)) (by rfl) (fun _ _ => by first | rfl | (go_simp; done) | (go_simp; omega)) ?_
        simp only [Act.put, List.setIfInBounds_toArray, List.set_cons_zero, List.set_cons_succ]
        refine mix_val (.pointer (some ⟨p, 0, none⟩)) (by rfl) (fun _ _ => by first | rfl | (go_simp; done) | (go_simp; omega)) ?_
        simp only [Act.put, List.setIfInBounds_toArray, List.set_cons_zero, List.set_cons_succ]
        refine mix_val (.pointer (some ⟨p, 0, none⟩)) (by rfl) (fun _ _ => by first | rfl | (go_simp; done) | (go_simp; omega)) ?_
        simp only [Act.put, List.setIfInBounds_toArray, List.set_cons_zero, List.set_cons_succ]
        refine mix_load_sl (by rfl) _ rfl ⟨p, 0, none⟩ rfl (.slice (some ⟨g, 0, none⟩) (l.length + 1) cap) (fun w' hc => by rw [cell_of_row _ _ _ _ _ _ hc]; rfl) ⟨_, _, _, rfl⟩ ?_
        simp only [Act.put, List.setIfInBounds_toArray, List.set_cons_zero, List.set_cons_succ]
        refine mix_val (.int .i64 (m : Int)) (by rfl) (fun _ _ => by first | rfl | (go_simp; done) | (go_simp; omega)) ?_
        simp only [Act.put, List.setIfInBounds_toArray, List.set_cons_zero, List.set_cons_succ]
        refine mix_val (.slice (some ⟨g, m * 19, none⟩) (l.length + 1 - m) (cap - m)) (by rfl) (fun _ _ => by first | rfl | (go_simp; done) | (go_simp; omega)) ?_
        simp only [Act.put, List.setIfInBounds_toArray, List.set_cons_zero, List.set_cons_succ]
        have hg4 : w4.heap[g]? = some (.cells cur 69 (0, 0)) := (hD4.block _ hgl).trans Hg.out
        obtain ⟨kc, c2, hcp, hz2, hl2⟩ := copy_shift hg4 (m := m) hml hcap hsz htk 3 ((m + 1) * 19) (.inl rfl)
        have hgs := grownBy_setRow w4 g c2
        have hpl4 : p < w4.heap.size := (Array.getElem?_eq_some_iff.1 hC4).1
        have hC5 : (w4.setRow g c2).heap[p]? = some (.cells #[(.slice (some ⟨g, 0, none⟩) (l.length + 1) cap)] 33 (0, 0)) := (hgs.block p hpl4 (fun e => hgp (Option.some.inj e).symm)).trans hC4
        refine mix_copy _ _ _ (by rfl) _ _ (by rfl) (by rfl) hcp (by rfl) hC5 ?_
        simp only [Act.put, List.setIfInBounds_toArray, List.set_cons_zero, List.set_cons_succ]
        refine mix_done (P := Tryz.prog) (ops := #[]) (C := fun _ => True) ?_
        have hx5 : (w4.setRow g c2).heap[w.heap.size]? = some (.cells (elC x) 69 (0, 0)) := by
          have hxl := (Array.getElem?_eq_some_iff.1 F3.out).1
          have hx4 := (hD4.block _ hxl).trans F3.out
          exact (hgs.block _ (Array.getElem?_eq_some_iff.1 hx4).1 (fun e => hgx (Option.some.inj e).symm)).trans hx4
        have hgv : (g = p ∨ v.ownBlock = some g ∨ w.heap.size ≤ g) := by
          rcases HTn.out with h | ⟨g2, h, h2⟩
          · exact .inr (.inl h.symm)
          · have h3 : g = g2 := Option.some.inj h
            exact .inr (.inr (by omega))
        have Hgv := Lib.hid hgv
        clear hgv
        have hK5 : KeptR w (w4.setRow g c2) p v := kept_other (KeptR.trans K3.out (KeptR.of hD4 p _) HTn.out) hgs Hgv.out
        have hg5 := setRow_heap w4 g cur c2 69 (0, 0) hg4
        obtain ⟨W5, hW5⟩ : ∃ W5, w4.setRow g c2 = W5 := ⟨_, rfl⟩
        rw [hW5] at hC5 hx5 hK5 hg5 ⊢
        have P5 := Lib.hid hC5
        have X5 := Lib.hid hx5
        have K5 := Lib.hid hK5
        have G5 := Lib.hid hg5
        have HL2 := Lib.hid hl2
        clear hW5 hgs hcp hg4 hC4 hD4 hl2 hC5 hx5 hK5 hg5 hpl4
        go_upto_region 5 with (fail)
        try simp only [List.append_eq, List.cons_append, List.nil_append]
        refine wp_region_mixD (fun w' => w'.heap[p]? = some (.cells #[(.slice (some ⟨g, 0, none⟩) (l.length + 1) cap)] 33 (0, 0)) ∧ w'.heap[w.heap.size]? = some (.cells (elC x) 69 (0, 0))) (fun w' => Below W5.heap.size W5 w') [true, true, true, true, true, true, true, false] (by kernel_rfl) (by kernel_rfl) ⟨P5.out, X5.out⟩ (Below.drew (Below.refl _ _)) ?_
        intro w6 hC6 hD6
        refine mix_val (.pointer (some ⟨p, 0, none⟩)) (by rfl) (fun _ _ => by first | rfl | (go_simp; done) | (go_simp; omega)) ?_
        simp only [Act.put, List.setIfInBounds_toArray, List.set_cons_zero, List.set_cons_succ]
        refine mix_val (.pointer (some ⟨p, 0, none⟩)) (by rfl) (fun _ _ => by first | rfl | (go_simp; done) | (go_simp; omega)) ?_
        simp only [Act.put, List.setIfInBounds_toArray, List.set_cons_zero, List.set_cons_succ]
        refine mix_val (.pointer (some ⟨p, 0, none⟩)) (by rfl) (fun _ _ => by first | rfl | (go_simp; done) | (go_simp; omega)) ?_
        simp only [Act.put, List.setIfInBounds_toArray, List.set_cons_zero, List.set_cons_succ]
        refine mix_load_sl (by rfl) _ rfl ⟨p, 0, none⟩ rfl (.slice (some ⟨g, 0, none⟩) (l.length + 1) cap) (fun w' hc => by rw [cell_of_row _ _ _ _ _ _ hc.1]; rfl) ⟨_, _, _, rfl⟩ ?_
        simp only [Act.put, List.setIfInBounds_toArray, List.set_cons_zero, List.set_cons_succ]
        refine mix_val (.int .i64 (m : Int)) (by rfl) (fun _ _ => by first | rfl | (go_simp; done) | (go_simp; omega)) ?_
        simp only [Act.put, List.setIfInBounds_toArray, List.set_cons_zero, List.set_cons_succ]
        refine mix_load_el (by rfl) _ rfl w.heap.size rfl x (fun w' hc => hc.2) ?_
        simp only [Act.put, List.setIfInBounds_toArray, List.set_cons_zero, List.set_cons_succ]
        have k8 : (m : Int) < ((l.length + 1 : Nat) : Int) := by omega
        refine mix_val (.pointer (some ⟨g, m * 19, none⟩)) (by rfl) (fun _ _ => by first | rfl | (go_simp; done) | (go_simp; omega)) ?_
        simp only [Act.put, List.setIfInBounds_toArray, List.set_cons_zero, List.set_cons_succ]
        have hg6 : w6.heap[g]? = some (.cells c2 69 (0, 0)) := (hD6.block _ (Array.getElem?_eq_some_iff.1 G5.out).1).trans G5.out
        obtain ⟨c3, hst, hz3, hl3⟩ := store_shift hg6 hml hcap hsz htk hz2 HL2.out
        have hgs := grownBy_setRow w6 g c3
        have hpl6 : p < w6.heap.size := (Array.getElem?_eq_some_iff.1 hC6.1).1
        have hxl6 : w.heap.size < w6.heap.size := (Array.getElem?_eq_some_iff.1 hC6.2).1
        have hp7 := (hgs.block p hpl6 (fun e => hgp (Option.some.inj e).symm)).trans hC6.1
        have hx7 := (hgs.block _ hxl6 (fun e => hgx (Option.some.inj e).symm)).trans hC6.2
        refine mix_store_at 69 _ _ (by rfl) ⟨g, m * 19, none⟩ (elC x) (by rfl) (by rfl) hst (by rfl) ⟨hp7, hx7⟩ ?_
        simp only [Act.put]
        refine mix_done (P := Tryz.prog) (ops := #[]) (C := fun _ => True) ?_
        have hg7 := setRow_heap w6 g c2 c3 69 (0, 0) hg6
        have hK7 : KeptR w (w6.setRow g c3) p v := kept_other (KeptR.trans K5.out (KeptR.of hD6 p _) HTn.out) hgs Hgv.out
        have hl9 : (l.take m ++ x :: l.drop m).length = l.length + 1 := by rw [List.length_append, List.length_cons, List.length_take, List.length_drop]; omega
        go_wp2_with fail
        go_end0
        refine ⟨rfl, .slice (some ⟨g, 0, none⟩) (l.length + 1) cap, l.take m ++ x :: l.drop m, ⟨hp7, ⟨by rw [cellsR_length], .inr ⟨g, cap, c3, by rw [hl9], Nat.zero_le _, hg7, by rw [hl9]; exact hcap, hmx, hz3, by rw [hl9]; exact hl3⟩⟩, fun e => hgp (Option.some.inj e)⟩, ?_, HTn.out, hK7⟩
        unfold putX
        rw [if_neg (by rw [Hhh.out]; decide)]
        exact HPut.out
    · refine wp_buildE _ (by rfl) x (by rfl) ⟨hC1, ?_⟩
      simp only [Act.put, List.setIfInBounds_toArray, List.set_cons_zero, List.set_cons_succ]
      refine any_of_rest (fun l => (l.drop 4).take 1 ++ l.drop 7) [false, false, true, true, false] [4, 7, 8, 9, 10] (by kernel_rfl) (by kernel_rfl) (by kernel_rfl) (by kernel_rfl) (by kernel_rfl) hC1 ?_
      simp only [List.drop_succ_cons, List.drop_zero, List.take_succ_cons, List.take_zero, List.cons_append, List.nil_append]
      refine mix_stand _ v (by rfl) (by obtain ⟨A, n, c, rfl⟩ := hsl; go_simp) hC1 ?_
      simp only [Act.put, List.setIfInBounds_toArray, List.set_cons_zero, List.set_cons_succ]
      refine mix_append2 _ _ _ (by rfl) _ _ (by rfl) (by rfl) happ (by rfl) hC3 ?_
      simp only [Act.put, List.setIfInBounds_toArray, List.set_cons_zero, List.set_cons_succ]
      have hvp : v.ownBlock ≠ some p := S1.2.2
      have hp3 : w3.heap[p]? = some (.cells #[v] 33 (0, 0)) := (hg3.block _ (S1.ltp) (fun e => hvp e.symm)).trans S1.1
      have cp3 : w3.cell? ⟨p, 0, none⟩ = some v := by rw [cell_of_row _ _ _ _ _ _ hp3]; rfl
      have zp3 : w3.frozen? ⟨p, 0, none⟩ = false := frozen_of_row _ _ _ _ _ hp3
      have htv : v'.ownBlock = v.ownBlock ∨ v'.ownBlock = some (w0.alloc (.cells (elC x) 69)).heap.size := htn
      have hTn : Turned w v v' := htv.elim .inl (fun h => .inr ⟨_, h, by have := b2.size; omega⟩)
      have hvp3 : v'.ownBlock ≠ some p := fun e => by
        rcases htv with h | h
        · rw [h] at e; exact hvp e
        · rw [h] at e; have h2 := Option.some.inj e; have := b2.size; omega
      have hvx : v'.ownBlock ≠ some w.heap.size := fun e => by
        rcases htv with h | h
        · rw [h] at e; have := hvw _ e; omega
        · rw [h] at e; have h2 := Option.some.inj e; have := b2.size; omega
      refine mix_val (.pointer (some ⟨p, 0, none⟩)) (by rfl) (fun _ _ => by first | rfl | (go_simp; done) | (go_simp; omega)) ?_
      simp only [Act.put, List.setIfInBounds_toArray, List.set_cons_zero, List.set_cons_succ]
      refine mix_val (.pointer (some ⟨p, 0, none⟩)) (by rfl) (fun _ _ => by first | rfl | (go_simp; done) | (go_simp; omega)) ?_
      simp only [Act.put, List.setIfInBounds_toArray, List.set_cons_zero, List.set_cons_succ]
      have hset3 : RSetAt (w3.setCell ⟨p, 0, none⟩ v') p v' (l ++ [x]) := rset_store hp3 hrow3 hvp3
      have hsl3 : ∃ A n c, v' = .slice A n c := by obtain ⟨A, c, e, _⟩ := hset3.reads; exact ⟨A, _, c, e⟩
      have hgp := grown_setCellP w3 ⟨p, 0, none⟩ v'
      have hx3l : w.heap.size < w3.heap.size := (Array.getElem?_eq_some_iff.1 hC3).1
      have hC4 : (w3.setCell ⟨p, 0, none⟩ v').heap[w.heap.size]? = some (.cells (elC x) 69 (0, 0)) := (hgp.block _ hx3l (fun e => by have := Option.some.inj e; simp at this; omega)).trans hC3
      refine mix_skip (w3.setCell ⟨p, 0, none⟩ v') (by rfl) (by obtain ⟨A, n, c, rfl⟩ := hsl3; go_simp) hC4 ?_
      simp only [Act.put]
      refine mix_done (P := Tryz.prog) (ops := #[]) (C := fun _ => True) ?_
      have hK3 : KeptR w (w3.setCell ⟨p, 0, none⟩ v') p v := kept_other (kept_row (KeptR.of ((B.out.trans (hD0.mono B.out.size)).trans (b2.mono hz0)) p v) hg3) hgp (.inl rfl)
      obtain ⟨W3, hW3⟩ : ∃ W3, w3.setCell ⟨p, 0, none⟩ v' = W3 := ⟨_, rfl⟩
      rw [hW3] at hset3 hC4 hK3 ⊢
      have F3 := Lib.hid hC4
      have K3 := Lib.hid hK3
      have HTn := Lib.hid hTn
      clear hW3 hgp hsl3 hvp3 htv hp3 cp3 zp3 hC3 hx3l hg3 hrow3 happ htn hbe hb2 cp1 S1 hC1 b2 cp S0 hD0 hC0 hwl hsl hC4 hK3 hTn hz0 c0 HW S B F0 hvp
      obtain ⟨g, cap, cur, rfl, hg, hcap, hmx, hsz, htk, hgp, hgx⟩ := rset_row hset3 (by simp) hvx
      have hlen : (l ++ [x]).length = l.length + 1 := by simp
      rw [hlen] at hcap htk hset3 ⊢
      have cp := hset3.cell
      have Hset3 := Lib.hid hset3
      clear hset3 hvx
      have HP3 := Lib.hid Hset3.out.1
      have hgl : g < W3.heap.size := (Array.getElem?_eq_some_iff.1 hg).1
      have k1 : (0 : Int) ≤ (m : Int) + 1 := by omega
      have k2 : (m : Int) + 1 ≤ ((l.length + 1 : Nat) : Int) := by omega
      have k3 : ((l.length + 1 : Nat) : Int) ≤ (cap : Int) := by omega
      have k4 : (m : Int) ≤ ((l.length + 1 : Nat) : Int) := by omega
      have k5 : ((m : Int) + 1).toNat = m + 1 := by omega
      have k6 : ¬ cap = m := by omega
      have k7 : IntKind.i64.wrap ((m : Int) + 1) = (m : Int) + 1 := IntWalk.i64_in _ (by omega)
      have Hg := Lib.hid hg
      clear hg
      by_cases hcm : cap = m + 1
      · have q0 : l.length = m := by omega
        have Q0 := Lib.hid q0
        clear q0
        go_upto_region 4 with (fail)
        try simp only [List.append_eq, List.cons_append, List.nil_append]
        refine wp_region_mixD (fun w' => w'.heap[p]? = some (.cells #[(.slice (some ⟨g, 0, none⟩) (l.length + 1) cap)] 33 (0, 0))) (fun w' => Below W3.heap.size W3 w') [true, true, true, true, true, true, true, true, true, true, true, true, true, false] (by kernel_rfl) (by kernel_rfl) HP3.out (Below.drew (Below.refl _ _)) ?_
        intro w4 hC4 hD4
        refine mix_val (.pointer (some ⟨p, 0, none⟩)) (by rfl) (fun _ _ => by first | rfl | (go_simp; done) | (go_simp; omega)) ?_
        simp only [Act.put, List.setIfInBounds_toArray, List.set_cons_zero, List.set_cons_succ]
        refine mix_val (.pointer (some ⟨p, 0, none⟩)) (by rfl) (fun _ _ => by first | rfl | (go_simp; done) | (go_simp; omega)) ?_
        simp only [Act.put, List.setIfInBounds_toArray, List.set_cons_zero, List.set_cons_succ]
        refine mix_val (.pointer (some ⟨p, 0, none⟩)) (by rfl) (fun _ _ => by first | rfl | (go_simp; done) | (go_simp; omega)) ?_
        simp only [Act.put, List.setIfInBounds_toArray, List.set_cons_zero, List.set_cons_succ]
        refine mix_load_sl (by rfl) _ rfl ⟨p, 0, none⟩ rfl (.slice (some ⟨g, 0, none⟩) (l.length + 1) cap) (fun w' hc => by rw [cell_of_row _ _ _ _ _ _ hc]; rfl) ⟨_, _, _, rfl⟩ ?_
        simp only [Act.put, List.setIfInBounds_toArray, List.set_cons_zero, List.set_cons_succ]
        refine mix_val (.int .i64 (m : Int)) (by rfl) (fun _ _ => by first | rfl | (go_simp; done) | (go_simp; omega)) ?_
        simp only [Act.put, List.setIfInBounds_toArray, List.set_cons_zero, List.set_cons_succ]
        refine mix_val (.int .i64 ((m : Int) + 1)) (by rfl) (fun _ _ => by first | rfl | (go_simp; done) | (go_simp; omega)) ?_
        simp only [Act.put, List.setIfInBounds_toArray, List.set_cons_zero, List.set_cons_succ]
        refine mix_val (.slice (some ⟨g, 0, none⟩) (l.length + 1 - (m + 1)) (cap - (m + 1))) (by rfl) (fun _ _ => by first | rfl | (go_simp; done) | (go_simp; omega)) ?_
        simp only [Act.put, List.setIfInBounds_toArray, List.set_cons_zero, List.set_cons_succ]
        refine mix_val (.pointer (some ⟨p, 0, none⟩)) (by rfl) (fun _ _ => by first | rfl | (go_simp; done) | (go_simp; omega)) ?_
        simp only [Act.put, List.setIfInBounds_toArray, List.set_cons_zero, List.set_cons_succ]
        refine mix_val (.pointer (some ⟨p, 0, none⟩)) (by rfl) (fun _ _ => by first | rfl | (go_simp; done) | (go_simp; omega)) ?_
        simp only [Act.put, List.setIfInBounds_toArray, List.set_cons_zero, List.set_cons_succ]
        refine mix_val (.pointer (some ⟨p, 0, none⟩)) (by rfl) (fun _ _ => by first | rfl | (go_simp; done) | (go_simp; omega)) ?_
        simp only [Act.put, List.setIfInBounds_toArray, List.set_cons_zero, List.set_cons_succ]
        refine mix_load_sl (by rfl) _ rfl ⟨p, 0, none⟩ rfl (.slice (some ⟨g, 0, none⟩) (l.length + 1) cap) (fun w' hc => by rw [cell_of_row _ _ _ _ _ _ hc]; rfl) ⟨_, _, _, rfl⟩ ?_
        simp only [Act.put, List.setIfInBounds_toArray, List.set_cons_zero, List.set_cons_succ]
        refine mix_val (.int .i64 (m : Int)) (by rfl) (fun _ _ => by first | rfl | (go_simp; done) | (go_simp; omega)) ?_
        simp only [Act.put, List.setIfInBounds_toArray, List.set_cons_zero, List.set_cons_succ]
        refine mix_val (.slice (some ⟨g, m * 19, none⟩) (l.length + 1 - m) (cap - m)) (by rfl) (fun _ _ => by first | rfl | (go_simp; done) | (go_simp; omega)) ?_
        simp only [Act.put, List.setIfInBounds_toArray, List.set_cons_zero, List.set_cons_succ]
        have hg4 : w4.heap[g]? = some (.cells cur 69 (0, 0)) := (hD4.block _ hgl).trans Hg.out
        obtain ⟨kc, c2, hcp, hz2, hl2⟩ := copy_shift hg4 (m := m) hml hcap hsz htk 3 0 (.inr ⟨rfl, Q0.out.symm⟩)
        have hgs := grownBy_setRow w4 g c2
        have hpl4 : p < w4.heap.size := (Array.getElem?_eq_some_iff.1 hC4).1
        have hC5 : (w4.setRow g c2).heap[p]? = some (.cells #[(.slice (some ⟨g, 0, none⟩) (l.length + 1) cap)] 33 (0, 0)) := (hgs.block p hpl4 (fun e => hgp (Option.some.inj e).symm)).trans hC4
        refine mix_copy _ _ _ (by rfl) _ _ (by rfl) (by rfl) hcp (by rfl) hC5 ?_
        simp only [Act.put, List.setIfInBounds_toArray, List.set_cons_zero, List.set_cons_succ]
        refine mix_done (P := Tryz.prog) (ops := #[]) (C := fun _ => True) ?_
        have hx5 : (w4.setRow g c2).heap[w.heap.size]? = some (.cells (elC x) 69 (0, 0)) := by
          have hxl := (Array.getElem?_eq_some_iff.1 F3.out).1
          have hx4 := (hD4.block _ hxl).trans F3.out
          exact (hgs.block _ (Array.getElem?_eq_some_iff.1 hx4).1 (fun e => hgx (Option.some.inj e).symm)).trans hx4
        have hgv : (g = p ∨ v.ownBlock = some g ∨ w.heap.size ≤ g) := by
          rcases HTn.out with h | ⟨g2, h, h2⟩
          · exact .inr (.inl h.symm)
          · have h3 : g = g2 := Option.some.inj h
            exact .inr (.inr (by omega))
        have Hgv := Lib.hid hgv
        clear hgv
        have hK5 : KeptR w (w4.setRow g c2) p v := kept_other (KeptR.trans K3.out (KeptR.of hD4 p _) HTn.out) hgs Hgv.out
        have hg5 := setRow_heap w4 g cur c2 69 (0, 0) hg4
        obtain ⟨W5, hW5⟩ : ∃ W5, w4.setRow g c2 = W5 := ⟨_, rfl⟩
        rw [hW5] at hC5 hx5 hK5 hg5 ⊢
        have P5 := Lib.hid hC5
        have X5 := Lib.hid hx5
        have K5 := Lib.hid hK5
        have G5 := Lib.hid hg5
        have HL2 := Lib.hid hl2
        clear hW5 hgs hcp hg4 hC4 hD4 hl2 hC5 hx5 hK5 hg5 hpl4
        go_upto_region 5 with (fail)
        try simp only [List.append_eq, List.cons_append, List.nil_append]
        refine wp_region_mixD (fun w' => w'.heap[p]? = some (.cells #[(.slice (some ⟨g, 0, none⟩) (l.length + 1) cap)] 33 (0, 0)) ∧ w'.heap[w.heap.size]? = some (.cells (elC x) 69 (0, 0))) (fun w' => Below W5.heap.size W5 w') [true, true, true, true, true, true, true, false] (by kernel_rfl) (by kernel_rfl) ⟨P5.out, X5.out⟩ (Below.drew (Below.refl _ _)) ?_
        intro w6 hC6 hD6
        refine mix_val (.pointer (some ⟨p, 0, none⟩)) (by rfl) (fun _ _ => by first | rfl | (go_simp; done) | (go_simp; omega)) ?_
        simp only [Act.put, List.setIfInBounds_toArray, List.set_cons_zero, List.set_cons_succ]
        refine mix_val (.pointer (some ⟨p, 0, none⟩)) (by rfl) (fun _ _ => by first | rfl | (go_simp; done) | (go_simp; omega)) ?_
        simp only [Act.put, List.setIfInBounds_toArray, List.set_cons_zero, List.set_cons_succ]
        refine mix_val (.pointer (some ⟨p, 0, none⟩)) (by rfl) (fun _ _ => by first | rfl | (go_simp; done) | (go_simp; omega)) ?_
        simp only [Act.put, List.setIfInBounds_toArray, List.set_cons_zero, List.set_cons_succ]
        refine mix_load_sl (by rfl) _ rfl ⟨p, 0, none⟩ rfl (.slice (some ⟨g, 0, none⟩) (l.length + 1) cap) (fun w' hc => by rw [cell_of_row _ _ _ _ _ _ hc.1]; rfl) ⟨_, _, _, rfl⟩ ?_
        simp only [Act.put, List.setIfInBounds_toArray, List.set_cons_zero, List.set_cons_succ]
        refine mix_val (.int .i64 (m : Int)) (by rfl) (fun _ _ => by first | rfl | (go_simp; done) | (go_simp; omega)) ?_
        simp only [Act.put, List.setIfInBounds_toArray, List.set_cons_zero, List.set_cons_succ]
        refine mix_load_el (by rfl) _ rfl w.heap.size rfl x (fun w' hc => hc.2) ?_
        simp only [Act.put, List.setIfInBounds_toArray, List.set_cons_zero, List.set_cons_succ]
        have k8 : (m : Int) < ((l.length + 1 : Nat) : Int) := by omega
        refine mix_val (.pointer (some ⟨g, m * 19, none⟩)) (by rfl) (fun _ _ => by first | rfl | (go_simp; done) | (go_simp; omega)) ?_
        simp only [Act.put, List.setIfInBounds_toArray, List.set_cons_zero, List.set_cons_succ]
        have hg6 : w6.heap[g]? = some (.cells c2 69 (0, 0)) := (hD6.block _ (Array.getElem?_eq_some_iff.1 G5.out).1).trans G5.out
        obtain ⟨c3, hst, hz3, hl3⟩ := store_shift hg6 hml hcap hsz htk hz2 HL2.out
        have hgs := grownBy_setRow w6 g c3
        have hpl6 : p < w6.heap.size := (Array.getElem?_eq_some_iff.1 hC6.1).1
        have hxl6 : w.heap.size < w6.heap.size := (Array.getElem?_eq_some_iff.1 hC6.2).1
        have hp7 := (hgs.block p hpl6 (fun e => hgp (Option.some.inj e).symm)).trans hC6.1
        have hx7 := (hgs.block _ hxl6 (fun e => hgx (Option.some.inj e).symm)).trans hC6.2
        refine mix_store_at 69 _ _ (by rfl) ⟨g, m * 19, none⟩ (elC x) (by rfl) (by rfl) hst (by rfl) ⟨hp7, hx7⟩ ?_
        simp only [Act.put]
        refine mix_done (P := Tryz.prog) (ops := #[]) (C := fun _ => True) ?_
        have hg7 := setRow_heap w6 g c2 c3 69 (0, 0) hg6
        have hK7 : KeptR w (w6.setRow g c3) p v := kept_other (KeptR.trans K5.out (KeptR.of hD6 p _) HTn.out) hgs Hgv.out
        have hl9 : (l.take m ++ x :: l.drop m).length = l.length + 1 := by rw [List.length_append, List.length_cons, List.length_take, List.length_drop]; omega
        go_wp2_with fail
        go_end0
        refine ⟨rfl, .slice (some ⟨g, 0, none⟩) (l.length + 1) cap, l.take m ++ x :: l.drop m, ⟨hp7, ⟨by rw [cellsR_length], .inr ⟨g, cap, c3, by rw [hl9], Nat.zero_le _, hg7, by rw [hl9]; exact hcap, hmx, hz3, by rw [hl9]; exact hl3⟩⟩, fun e => hgp (Option.some.inj e)⟩, ?_, HTn.out, hK7⟩
        unfold putX
        rw [if_neg (by rw [Hhh.out]; decide)]
        exact HPut.out
      · have q0 := hcm
        clear q0
        go_upto_region 4 with (fail)
        try simp only [List.append_eq, List.cons_append, List.nil_append]
        refine wp_region_mixD (fun w' => w'.heap[p]? = some (.cells #[(.slice (some ⟨g, 0, none⟩) (l.length + 1) cap)] 33 (0, 0))) (fun w' => Below W3.heap.size W3 w') [true, true, true, true, true, true, true, true, true, true, true, true, true, false] (by kernel_rfl) (by kernel_rfl) HP3.out (Below.drew (Below.refl _ _)) ?_
        intro w4 hC4 hD4
        refine mix_val (.pointer (some ⟨p, 0, none⟩)) (by rfl) (fun _ _ => by first | rfl | (go_simp; done) | (go_simp; omega)) ?_
        simp only [Act.put, List.setIfInBounds_toArray, List.set_cons_zero, List.set_cons_succ]
        refine mix_val (.pointer (some ⟨p, 0, none⟩)) (by rfl) (fun _ _ => by first | rfl | (go_simp; done) | (go_simp; omega)) ?_
        simp only [Act.put, List.setIfInBounds_toArray, List.set_cons_zero, List.set_cons_succ]
        refine mix_val (.pointer (some ⟨p, 0, none⟩)) (by rfl) (fun _ _ => by first | rfl | (go_simp; done) | (go_simp; omega)) ?_
        simp only [Act.put, List.setIfInBounds_toArray, List.set_cons_zero, List.set_cons_succ]
        refine mix_load_sl (by rfl) _ rfl ⟨p, 0, none⟩ rfl (.slice (some ⟨g, 0, none⟩) (l.length + 1) cap) (fun w' hc => by rw [cell_of_row _ _ _ _ _ _ hc]; rfl) ⟨_, _, _, rfl⟩ ?_
        simp only [Act.put, List.setIfInBounds_toArray, List.set_cons_zero, List.set_cons_succ]
        refine mix_val (.int .i64 (m : Int)) (by rfl) (fun _ _ => by first | rfl | (go_simp; done) | (go_simp; omega)) ?_
        simp only [Act.put, List.setIfInBounds_toArray, List.set_cons_zero, List.set_cons_succ]
        refine mix_val (.int .i64 ((m : Int) + 1)) (by rfl) (fun _ _ => by first | rfl | (go_simp; done) | (go_simp; omega)) ?_
        simp only [Act.put, List.setIfInBounds_toArray, List.set_cons_zero, List.set_cons_succ]
        refine mix_val (.slice (some ⟨g, (m + 1) * 19, none⟩) (l.length + 1 - (m + 1)) (cap - (m + 1))) (by rfl) (fun _ _ => by first | rfl | (go_simp; done) | (go_simp; omega)) ?_
        simp only [Act.put, List.setIfInBounds_toArray, List.set_cons_zero, List.set_cons_succ]
        refine mix_val (.pointer (some ⟨p, 0, none⟩)) (by rfl) (fun _ _ => by first | rfl | (go_simp; done) | (go_simp; omega)) ?_
        simp only [Act.put, List.setIfInBounds_toArray, List.set_cons_zero, List.set_cons_succ]
        refine mix_val (.pointer (some ⟨p, 0, none⟩)) (by rfl) (fun _ _ => by first | rfl | (go_simp; done) | (go_simp; omega)) ?_
        simp only [Act.put, List.setIfInBounds_toArray, List.set_cons_zero, List.set_cons_succ]
        refine mix_val (.pointer (some ⟨p, 0, none⟩)) (by rfl) (fun _ _ => by first | rfl | (go_simp; done) | (go_simp; omega)) ?_
        simp only [Act.put, List.setIfInBounds_toArray, List.set_cons_zero, List.set_cons_succ]
        refine mix_load_sl (by rfl) _ rfl ⟨p, 0, none⟩ rfl (.slice (some ⟨g, 0, none⟩) (l.length + 1) cap) (fun w' hc => by rw [cell_of_row _ _ _ _ _ _ hc]; rfl) ⟨_, _, _, rfl⟩ ?_
        simp only [Act.put, List.setIfInBounds_toArray, List.set_cons_zero, List.set_cons_succ]
        refine mix_val (.int .i64 (m : Int)) (by rfl) (fun _ _ => by first | rfl | (go_simp; done) | (go_simp; omega)) ?_
        simp only [Act.put, List.setIfInBounds_toArray, List.set_cons_zero, List.set_cons_succ]
        refine mix_val (.slice (some ⟨g, m * 19, none⟩) (l.length + 1 - m) (cap - m)) (by rfl) (fun _ _ => by first | rfl | (go_simp; done) | (go_simp; omega)) ?_
        simp only [Act.put, List.setIfInBounds_toArray, List.set_cons_zero, List.set_cons_succ]
        have hg4 : w4.heap[g]? = some (.cells cur 69 (0, 0)) := (hD4.block _ hgl).trans Hg.out
        obtain ⟨kc, c2, hcp, hz2, hl2⟩ := copy_shift hg4 (m := m) hml hcap hsz htk 3 ((m + 1) * 19) (.inl rfl)
        have hgs := grownBy_setRow w4 g c2
        have hpl4 : p < w4.heap.size := (Array.getElem?_eq_some_iff.1 hC4).1
        have hC5 : (w4.setRow g c2).heap[p]? = some (.cells #[(.slice (some ⟨g, 0, none⟩) (l.length + 1) cap)] 33 (0, 0)) := (hgs.block p hpl4 (fun e => hgp (Option.some.inj e).symm)).trans hC4
        refine mix_copy _ _ _ (by rfl) _ _ (by rfl) (by rfl) hcp (by rfl) hC5 ?_
        simp only [Act.put, List.setIfInBounds_toArray, List.set_cons_zero, List.set_cons_succ]
        refine mix_done (P := Tryz.prog) (ops := #[]) (C := fun _ => True) ?_
        have hx5 : (w4.setRow g c2).heap[w.heap.size]? = some (.cells (elC x) 69 (0, 0)) := by
          have hxl := (Array.getElem?_eq_some_iff.1 F3.out).1
          have hx4 := (hD4.block _ hxl).trans F3.out
          exact (hgs.block _ (Array.getElem?_eq_some_iff.1 hx4).1 (fun e => hgx (Option.some.inj e).symm)).trans hx4
        have hgv : (g = p ∨ v.ownBlock = some g ∨ w.heap.size ≤ g) := by
          rcases HTn.out with h | ⟨g2, h, h2⟩
          · exact .inr (.inl h.symm)
          · have h3 : g = g2 := Option.some.inj h
            exact .inr (.inr (by omega))
        have Hgv := Lib.hid hgv
        clear hgv
        have hK5 : KeptR w (w4.setRow g c2) p v := kept_other (KeptR.trans K3.out (KeptR.of hD4 p _) HTn.out) hgs Hgv.out
        have hg5 := setRow_heap w4 g cur c2 69 (0, 0) hg4
        obtain ⟨W5, hW5⟩ : ∃ W5, w4.setRow g c2 = W5 := ⟨_, rfl⟩
        rw [hW5] at hC5 hx5 hK5 hg5 ⊢
        have P5 := Lib.hid hC5
        have X5 := Lib.hid hx5
        have K5 := Lib.hid hK5
        have G5 := Lib.hid hg5
        have HL2 := Lib.hid hl2
        clear hW5 hgs hcp hg4 hC4 hD4 hl2 hC5 hx5 hK5 hg5 hpl4
        go_upto_region 5 with (fail)
        try simp only [List.append_eq, List.cons_append, List.nil_append]
        refine wp_region_mixD (fun w' => w'.heap[p]? = some (.cells #[(.slice (some ⟨g, 0, none⟩) (l.length + 1) cap)] 33 (0, 0)) ∧ w'.heap[w.heap.size]? = some (.cells (elC x) 69 (0, 0))) (fun w' => Below W5.heap.size W5 w') [true, true, true, true, true, true, true, false] (by kernel_rfl) (by kernel_rfl) ⟨P5.out, X5.out⟩ (Below.drew (Below.refl _ _)) ?_
        intro w6 hC6 hD6
        refine mix_val (.pointer (some ⟨p, 0, none⟩)) (by rfl) (fun _ _ => by first | rfl | (go_simp; done) | (go_simp; omega)) ?_
        simp only [Act.put, List.setIfInBounds_toArray, List.set_cons_zero, List.set_cons_succ]
        refine mix_val (.pointer (some ⟨p, 0, none⟩)) (by rfl) (fun _ _ => by first | rfl | (go_simp; done) | (go_simp; omega)) ?_
        simp only [Act.put, List.setIfInBounds_toArray, List.set_cons_zero, List.set_cons_succ]
        refine mix_val (.pointer (some ⟨p, 0, none⟩)) (by rfl) (fun _ _ => by first | rfl | (go_simp; done) | (go_simp; omega)) ?_
        simp only [Act.put, List.setIfInBounds_toArray, List.set_cons_zero, List.set_cons_succ]
        refine mix_load_sl (by rfl) _ rfl ⟨p, 0, none⟩ rfl (.slice (some ⟨g, 0, none⟩) (l.length + 1) cap) (fun w' hc => by rw [cell_of_row _ _ _ _ _ _ hc.1]; rfl) ⟨_, _, _, rfl⟩ ?_
        simp only [Act.put, List.setIfInBounds_toArray, List.set_cons_zero, List.set_cons_succ]
        refine mix_val (.int .i64 (m : Int)) (by rfl) (fun _ _ => by first | rfl | (go_simp; done) | (go_simp; omega)) ?_
        simp only [Act.put, List.setIfInBounds_toArray, List.set_cons_zero, List.set_cons_succ]
        refine mix_load_el (by rfl) _ rfl w.heap.size rfl x (fun w' hc => hc.2) ?_
        simp only [Act.put, List.setIfInBounds_toArray, List.set_cons_zero, List.set_cons_succ]
        have k8 : (m : Int) < ((l.length + 1 : Nat) : Int) := by omega
        refine mix_val (.pointer (some ⟨g, m * 19, none⟩)) (by rfl) (fun _ _ => by first | rfl | (go_simp; done) | (go_simp; omega)) ?_
        simp only [Act.put, List.setIfInBounds_toArray, List.set_cons_zero, List.set_cons_succ]
        have hg6 : w6.heap[g]? = some (.cells c2 69 (0, 0)) := (hD6.block _ (Array.getElem?_eq_some_iff.1 G5.out).1).trans G5.out
        obtain ⟨c3, hst, hz3, hl3⟩ := store_shift hg6 hml hcap hsz htk hz2 HL2.out
        have hgs := grownBy_setRow w6 g c3
        have hpl6 : p < w6.heap.size := (Array.getElem?_eq_some_iff.1 hC6.1).1
        have hxl6 : w.heap.size < w6.heap.size := (Array.getElem?_eq_some_iff.1 hC6.2).1
        have hp7 := (hgs.block p hpl6 (fun e => hgp (Option.some.inj e).symm)).trans hC6.1
        have hx7 := (hgs.block _ hxl6 (fun e => hgx (Option.some.inj e).symm)).trans hC6.2
        refine mix_store_at 69 _ _ (by rfl) ⟨g, m * 19, none⟩ (elC x) (by rfl) (by rfl) hst (by rfl) ⟨hp7, hx7⟩ ?_
        simp only [Act.put]
        refine mix_done (P := Tryz.prog) (ops := #[]) (C := fun _ => True) ?_
        have hg7 := setRow_heap w6 g c2 c3 69 (0, 0) hg6
        have hK7 : KeptR w (w6.setRow g c3) p v := kept_other (KeptR.trans K5.out (KeptR.of hD6 p _) HTn.out) hgs Hgv.out
        have hl9 : (l.take m ++ x :: l.drop m).length = l.length + 1 := by rw [List.length_append, List.length_cons, List.length_take, List.length_drop]; omega
        go_wp2_with fail
        go_end0
        refine ⟨rfl, .slice (some ⟨g, 0, none⟩) (l.length + 1) cap, l.take m ++ x :: l.drop m, ⟨hp7, ⟨by rw [cellsR_length], .inr ⟨g, cap, c3, by rw [hl9], Nat.zero_le _, hg7, by rw [hl9]; exact hcap, hmx, hz3, by rw [hl9]; exact hl3⟩⟩, fun e => hgp (Option.some.inj e)⟩, ?_, HTn.out, hK7⟩
        unfold putX
        rw [if_neg (by rw [Hhh.out]; decide)]
        exact HPut.out
end Go.Proofs.YtnndnjnpkjpkpaaGreatDoor
