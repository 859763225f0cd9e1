/- A drawn region whose operations read, or call functions that leave the world as it is, and whose few stores stand alone when their turn comes: one lexical walk serves every order, stores before late readers included. Our own; for any program. | A drawn region taken in another order than the text's: as Mix, with the row of its operations given in the order in which they are taken. Our own; for any program. -/
import Derived.Test.YtngkfopdlkddnaaK04
import Derived.OrdersHeld
import Derived.Deep.RegionHeld3
import Derived.Deep.Quiet
namespace Go.Proofs.Ytngkfopdlkddnaa
open Go Go.RowKit
section
variable {P : Program} {md : Region.Mode} {ops : Array Oper} {C : World → Prop} {Q : Exit → Act → World → Prop}
/-- What the operation's run may be in a world of the class: a value, or a call that returns it; the world stays. -/
def RunsTo (P : Program) (r : Sem Next) (v : Value) (w : World) : Prop :=
  r.run P w = .ok (.value v) w ∨ ∃ f args, r.run P w = .ok (.enter f args) w ∧ Calls P f args w fun e w' => e = .returned v ∧ w = w'
/-- The operation leaves v in every world of the class, or its guard is false. -/
def YieldsC (P : Program) (ops : Array Oper) (C : World → Prop) (o : Oper) (v : Value) (a : Act) : Prop :=
  if Region.wanted o (yielded ops a.tmps) = true then ∀ w, C w → RunsTo P (execOp a.eval o) v w else v = undef
theorem YieldsC.at {i : Nat} {o : Oper} {v : Value} {a : Act} (hi : ops[i]? = some o) (hy : YieldsC P ops C o v a) {K : Act → World → Prop} {w : World} (hC : C w) (h : K (a.put o.dst v) w) : wpOp P ops Q i K a w := by
  unfold Go.wpOp
  simp only [hi]
  unfold YieldsC at hy
  by_cases hw : Region.wanted o (yielded ops a.tmps) = true
  · rw [if_pos hw] at hy
    simp only [hw, if_true]
    rcases hy w hC with hv | ⟨f, args, hv, hc⟩
    · simp only [Oper.wp, hv, Oper.upon]; exact .inl h
    · simp only [Oper.wp, hv, Oper.upon]
      refine .inl (hc.mono ?_)
      rintro e w' ⟨rfl, rfl⟩
      exact h
  · rw [if_neg hw] at hy
    subst hy
    simp only [hw, Bool.false_eq_true, if_false]; exact h
theorem YieldsC.same {o : Oper} {v : Value} {a b : Act} (hy : YieldsC P ops C o v a) (he : execOp b.eval o = execOp a.eval o) (hw : Region.wanted o (yielded ops b.tmps) = Region.wanted o (yielded ops a.tmps)) : YieldsC P ops C o v b := by
  unfold YieldsC at *
  rw [he, hw]; exact hy
/-- Another operation of the region, apart from oi, neither sees nor spoils what oi will leave. -/
theorem other_putC {j : Nat} {oi oj : Oper} {v : Value} (hj : ops[j]? = some oj) (hap : oi.apart ops oj = true) (hsi : ∀ cs b, oi.op ≠ .select cs b) (hsj : ∀ cs b, oj.op ≠ .select cs b)
    (hQ : ∀ c a w, Q (.panic c) (a.put oi.dst v) w → Q (.panic c) a w) {K : Act → World → Prop} {a : Act} {w : World} (hy : YieldsC P ops C oi v a) (h : wpOp P ops Q j K (a.put oi.dst v) w) :
    wpOp P ops Q j (fun b w' => YieldsC P ops C oi v b ∧ K (b.put oi.dst v) w') a w := by
  obtain ⟨ap1, ap2, ap3⟩ := Oper.apart_spec hap
  have still : ∀ (b : Act) (x : Value), YieldsC P ops C oi v b → YieldsC P ops C oi v (b.put oj.dst x) := fun b x hb => hb.same (execOp_put oi hsi b oj.dst x ap3) (wanted_put oi b oj.dst x ap3)
  have swap : ∀ (b : Act) (x : Value) (w' : World), YieldsC P ops C oi v b → K ((b.put oi.dst v).put oj.dst x) w' → YieldsC P ops C oi v (b.put oj.dst x) ∧ K ((b.put oj.dst x).put oi.dst v) w' :=
    fun b x w' hb hk => ⟨still b x hb, by rw [← Act.put_comm b v x ap2]; exact hk⟩
  unfold wpOp at h ⊢
  simp only [hj] at h ⊢
  rw [wanted_put oj a oi.dst v ap1] at h
  by_cases hw : Region.wanted oj (yielded ops a.tmps) = true
  · simp only [hw, if_true] at h ⊢
    rcases h with h | ⟨h, hl⟩
    · refine .inl ?_
      unfold Oper.wp at h ⊢
      rw [execOp_put oj hsj a oi.dst v ap1] at h
      cases hr : (execOp a.eval oj).run P w with
      | ok n w' =>
        rw [hr] at h
        cases n <;> simp only [Oper.upon] at h ⊢
        case value x => exact swap a x w' hy h
        case skip => exact swap a _ w' hy h
        case defer d =>
          refine ⟨still _ _ (hy.same rfl rfl), ?_⟩
          rw [← Act.put_comm _ v undef ap2, ← Act.put_defers]
          exact h
        case enter f args =>
          refine Calls.mono h fun e w2 he => ?_
          cases e with
          | returned x => exact swap a x w2 hy he
          | panicked c => exact hQ _ _ _ he
          | outgrown => exact he
        case row r args => exact Rows.mono h fun x w2 he => swap a x w2 hy he
      | halt x w' =>
        rw [hr] at h
        cases x <;> simp only [Oper.upon] at h ⊢
        case panic x => exact hQ _ _ _ h
    · exact .inr ⟨by unfold Oper.asks at h ⊢; rw [execOp_put oj hsj a oi.dst v ap1] at h; exact h, hl⟩
  · simp only [hw, Bool.false_eq_true, if_false] at h ⊢
    exact swap a _ w hy h
/-- An operation that is ready, that leaves its value in every world of the class, and that is apart from all that does not wait for it, may be taken first. -/
theorem first_of {i : Nat} {oi : Oper} {v : Value} (hi : ops[i]? = some oi) (hsel : ∀ (j : Nat) (o : Oper) cs b, ops[j]? = some o → o.op ≠ .select cs b) (hQ : ∀ c a w, Q (.panic c) (a.put oi.dst v) w → Q (.panic c) a w) (fuel : Nat) :
    ∀ (listed : Array Bool) (a : Act) (w : World), (∀ j oj, ops[j]? = some oj → j ≠ i → listed.getD j true = false → (∀ e ∈ oj.after, Region.binds md e = true → e.on ≠ i) → oi.apart ops oj = true) →
      i ∈ Region.ready md ops listed → YieldsC P ops C oi v a → C w →
      wpAnyH P md ops Q C fuel (listed.setIfInBounds i true) (a.put oi.dst v) w → wpAnyH P md ops Q C (fuel + 1) listed a w := by
  induction fuel with
  | zero =>
    intro listed a w _ hr hy hC H
    refine ⟨fun h => (by rw [h] at hr; cases hr), fun j hj => ?_⟩
    by_cases hji : j = i
    · subst hji; exact hy.at hi hC ⟨hC, H⟩
    · have := ready_mono hj hji
      rw [H.1] at this; cases this
  | succ fuel ih =>
    intro listed a w hfree hr hy hC H
    refine ⟨fun h => (by rw [h] at hr; cases hr), fun j hj => ?_⟩
    by_cases hji : j = i
    · subst hji; exact hy.at hi hC ⟨hC, H⟩
    · have hunI := (mem_ready.1 hr).1
      obtain ⟨hunJ, oj, hoj, hall⟩ := mem_ready.1 hj
      have hnot : ∀ e ∈ oj.after, Region.binds md e = true → e.on ≠ i := fun e he hb heq => by
        have h1 := hall e he hb
        rw [heq] at h1
        rcases Nat.lt_or_ge i listed.size with h' | h'
        · simp [h'] at hunI h1; rw [hunI] at h1; cases h1
        · simp [Array.getElem?_eq_none h'] at h1
      have h2 := other_putC hoj (hfree j oj hoj hji hunJ hnot) (fun cs b => hsel i oi cs b hi) (fun cs b => hsel j oj cs b hoj) hQ hy (H.2 j (ready_mono hj hji))
      refine wpOp_mono (fun b w' h3 => ⟨h3.2.1, ih (listed.setIfInBounds j true) b w' (fun k ok hk hki hun hno => hfree k ok hk hki ?_ hno) (ready_mono hr (Ne.symm hji)) h3.1 h3.2.1 ?_⟩) h2
      · by_cases hjk : j = k
        · subst hjk; exact hunJ
        · rw [getD_set_ne true hjk] at hun; exact hun
      · rw [Array.setIfInBounds_comm _ _ hji]
        exact h3.2.2
/-- A row of operations in their order: each is quiet (true), or stands alone when its turn comes (false). -/
def wpMix (P : Program) (ops : Array Oper) (Q : Exit → Act → World → Prop) (C : World → Prop) : List Bool → List Oper → Act → World → Prop
  | true :: bs, o :: l, a, w => ∃ v, YieldsC P ops C o v a ∧ wpMix P ops Q C bs l (a.put o.dst v) w
  | false :: bs, o :: l, a, w => Region.wanted o (yielded ops a.tmps) = true ∧ o.wp P a w (fun b w' => C w' ∧ wpMix P ops Q C bs l b w') Q
  | _, _, a, w => Q .normal a w
/-- That is how the edges have it. -/
def mixB (md : Region.Mode) (ops : Array Oper) : List Bool → Nat → Array Bool → Bool
  | [], _, listed => (Region.ready md ops listed).isEmpty
  | true :: bs, k, listed => (Region.ready md ops listed).contains k && Region.free md ops listed k && mixB md ops bs (k + 1) (listed.setIfInBounds k true)
  | false :: bs, k, listed => decide (Region.ready md ops listed = [k]) && mixB md ops bs (k + 1) (listed.setIfInBounds k true)
theorem any_of_mix (hsel : Region.noSelect ops = true) (hQ : ∀ c o v a w, Q (.panic c) (Act.put a o v) w → Q (.panic c) a w) (bs : List Bool) : ∀ (l : List Oper) (k : Nat) (listed : Array Bool) (a : Act) (w : World), bs.length = l.length → (∀ j, j < l.length → l[j]? = ops[k + j]?) →
    mixB md ops bs k listed = true → C w → wpMix P ops Q C bs l a w → wpAnyH P md ops Q C l.length listed a w := by
  induction bs with
  | nil =>
    intro l k listed a w hlen _ hB _ h
    cases l with
    | nil => exact ⟨by simpa [mixB] using hB, h⟩
    | cons o l => simp at hlen
  | cons b bs ih =>
    intro l k listed a w hlen hl hB hC h
    cases l with
    | nil => simp at hlen
    | cons o l =>
      have h0 : ops[k]? = some o := by simpa using (hl 0 (by simp)).symm
      have hl' : ∀ j, j < l.length → l[j]? = ops[k + 1 + j]? := fun j hj => by have := hl (j + 1) (by simp; omega); simpa [Nat.add_assoc, Nat.add_comm 1 j] using this
      have hlen' : bs.length = l.length := by simpa using hlen
      cases b with
      | true =>
        simp only [mixB, Bool.and_eq_true] at hB
        obtain ⟨⟨hr, hf⟩, hB'⟩ := hB
        obtain ⟨v, hy, hK⟩ := h
        exact first_of h0 (Region.noSelect_spec hsel) (fun c a w => hQ c _ _ a w) l.length listed a w (Region.free_spec h0 hf) (by simpa using hr) hy hC (ih l (k + 1) _ _ w hlen' hl' hB' hC hK)
      | false =>
        simp only [mixB, Bool.and_eq_true, decide_eq_true_eq] at hB
        obtain ⟨hw, h⟩ := h
        refine ⟨fun h1 => (by rw [hB.1] at h1; cases h1), fun i hi => ?_⟩
        rw [hB.1] at hi
        obtain rfl : i = k := by simpa using hi
        unfold wpOp
        simp only [h0, hw, if_true]
        exact .inl (Oper.wp_mono (fun b w' h' => ⟨h'.1, ih l (i + 1) _ b w' hlen' hl' hB.2 h'.1 h'.2⟩) h)
theorem wp_region_mix {id : Nat} {a : Act} {w : World} {l : List Oper} (C : World → Prop) (bs : List Bool) (hm : P.follows .mixedOrders = true) (hB : (Region.noSelect l.toArray && (decide (bs.length = l.length) && mixB .any l.toArray bs 0 (Array.replicate l.toArray.size false))) = true)
    (hC : C { w with drawn := w.drawn + 1 }) (h : wpMix P l.toArray (NoPanic Q) C bs l a { w with drawn := w.drawn + 1 }) : (Code.region id l.toArray true).wp P Q a w := by
  simp only [Bool.and_eq_true, decide_eq_true_eq] at hB
  exact wp_region_noPanic (wp_region_held (S := C) hm (any_of_mix hB.1 (fun _ _ _ _ _ h => h) bs l 0 _ a _ hB.2.1 (fun j _ => by simp) hB.2.2 hC h))
theorem mix_done {a : Act} {w : World} (h : Q .normal a w) : wpMix P ops (NoPanic Q) C [] [] a w := h
theorem mix_off {o : Oper} {l : List Oper} {bs : List Bool} {a : Act} {w : World} (hw : Region.wanted o (yielded ops a.tmps) = false) (k : wpMix P ops Q C bs l (a.put o.dst undef) w) : wpMix P ops Q C (true :: bs) (o :: l) a w :=
  ⟨undef, by unfold YieldsC; rw [if_neg (by rw [hw]; decide)], k⟩
theorem mix_val {o : Oper} {l : List Oper} {bs : List Bool} {a : Act} {w : World} (v : Value) (hw : Region.wanted o (yielded ops a.tmps) = true) (hv : ∀ w', C w' → (execOp a.eval o).run P w' = .ok (.value v) w') (k : wpMix P ops Q C bs l (a.put o.dst v) w) : wpMix P ops Q C (true :: bs) (o :: l) a w :=
  ⟨v, by unfold YieldsC; rw [if_pos hw]; exact fun w' hc => .inl (hv w' hc), k⟩
theorem mix_call {o : Oper} {l : List Oper} {bs : List Bool} {a : Act} {w : World} (f : FuncId) (args : Array Value) (v : Value) (hw : Region.wanted o (yielded ops a.tmps) = true) (ho : ∀ w', (execOp a.eval o).run P w' = .ok (.enter f args) w')
    (hc : ∀ w', Calls P f args w' fun e w2 => e = .returned v ∧ w' = w2) (k : wpMix P ops Q C bs l (a.put o.dst v) w) : wpMix P ops Q C (true :: bs) (o :: l) a w :=
  ⟨v, by unfold YieldsC; rw [if_pos hw]; exact fun w' _ => .inr ⟨f, args, ho w', hc w'⟩, k⟩
end
/-- A load of one cell of a fact. -/
theorem mix_load_int {ops : Array Oper} {C : World → Prop} {Q : Exit → Act → World → Prop} {o : Oper} {l : List Oper} {bs : List Bool} {a : Act} {w : World} (hw : Region.wanted o (yielded ops a.tmps) = true) (x : Operand) (ho : o.op = .load 3 x) (p : Addr) (hx : a.eval x = .pointer (some p)) (v : Value)
    (hv : ∀ w', C w' → w'.cell? p = some v) (k : wpMix Try.prog ops Q C bs l (a.put o.dst v) w) : wpMix Try.prog ops Q C (true :: bs) (o :: l) a w :=
  mix_val v hw (fun w' hc => by
    have h := hv w' hc
    unfold execOp
    simp only [ho, hx]
    go_simp) k
theorem mix_load_str {ops : Array Oper} {C : World → Prop} {Q : Exit → Act → World → Prop} {o : Oper} {l : List Oper} {bs : List Bool} {a : Act} {w : World} (hw : Region.wanted o (yielded ops a.tmps) = true) (x : Operand) (ho : o.op = .load 9 x) (p : Addr) (hx : a.eval x = .pointer (some p)) (v : Value)
    (hv : ∀ w', C w' → w'.cell? p = some v) (k : wpMix Try.prog ops Q C bs l (a.put o.dst v) w) : wpMix Try.prog ops Q C (true :: bs) (o :: l) a w :=
  mix_val v hw (fun w' hc => by
    have h := hv w' hc
    unfold execOp
    simp only [ho, hx]
    go_simp) k
/-- A load of a whole fact. -/
theorem mix_load_fact {ops : Array Oper} {C : World → Prop} {Q : Exit → Act → World → Prop} {o : Oper} {l : List Oper} {bs : List Bool} {a : Act} {w : World} (hw : Region.wanted o (yielded ops a.tmps) = true) (x : Operand) (ho : o.op = .load 29 x) (g : Nat) (hx : a.eval x = .pointer (some ⟨g, 0, none⟩)) (v : Nat → Int) (t : ByteArray)
    (hv : ∀ w', C w' → w'.heap[g]? = some (.cells (factC v t) 29 (0, 0))) (k : wpMix Try.prog ops Q C bs l (a.put o.dst (.agg (factC v t))) w) : wpMix Try.prog ops Q C (true :: bs) (o :: l) a w :=
  mix_val _ hw (fun w' hc => by
    unfold execOp
    simp only [ho, hx, Instr.loadAt, Instr.sureAddr, Sem.run_bind, Sem.run_pure, Result.andThen_ok, run_loadVar_row w' g 29 29 (factC v t) (0, 0) _ (hv w' hc) Try.underlying29 rfl (hiC v t)]) k
/-- A fact is stored when its turn comes. -/
theorem mix_store_fact {ops : Array Oper} {C : World → Prop} {Q : Exit → Act → World → Prop} {o : Oper} {l : List Oper} {bs : List Bool} {a : Act} {w : World} (hw : Region.wanted o (yielded ops a.tmps) = true) (x y : Operand) (ho : o.op = .store 29 x y) (g : Nat) (v : Nat → Int) (t : ByteArray) (hx : a.eval x = .pointer (some ⟨g, 0, none⟩)) (hy : a.eval y = .agg (factC v t))
    (old : Array Value) (hg : w.heap[g]? = some (.cells old 29 (0, 0))) (hold : old.size = (factC v t).size) (h1 : (factC v t).all (·.oneCell') = true) (hC : C (w.setRow g (factC v t))) (k : wpMix Try.prog ops Q C bs l (a.put o.dst undef) (w.setRow g (factC v t))) : wpMix Try.prog ops Q C (false :: bs) (o :: l) a w :=
  ⟨hw, wp_store_row 29 x y ho g (factC v t) hx hy 29 old hg (hiC v t) hold h1 ⟨hC, k⟩⟩
end Go.Proofs.Ytngkfopdlkddnaa
namespace Go.Proofs.Ytngkfopdlkddnaa
open Go Go.RowKit
section
variable {P : Program} {md : Region.Mode} {ops : Array Oper} {C : World → Prop} {Q : Exit → Act → World → Prop}
def mixPB (md : Region.Mode) (ops : Array Oper) : List Bool → List Nat → Array Bool → Bool
  | [], [], listed => (Region.ready md ops listed).isEmpty
  | true :: bs, k :: ks, listed => (Region.ready md ops listed).contains k && Region.free md ops listed k && mixPB md ops bs ks (listed.setIfInBounds k true)
  | false :: bs, k :: ks, listed => decide (Region.ready md ops listed = [k]) && mixPB md ops bs ks (listed.setIfInBounds k true)
  | _, _, _ => false
theorem any_of_mixP (hsel : Region.noSelect ops = true) (hQ : ∀ c o v a w, Q (.panic c) (Act.put a o v) w → Q (.panic c) a w) (bs : List Bool) : ∀ (ks : List Nat) (l : List Oper) (listed : Array Bool) (a : Act) (w : World), bs.length = l.length → (ks.map fun k => ops[k]?) = l.map some →
    mixPB md ops bs ks listed = true → C w → wpMix P ops Q C bs l a w → wpAnyH P md ops Q C l.length listed a w := by
  induction bs with
  | nil =>
    intro ks l listed a w hlen hl hB _ h
    cases l with
    | nil =>
      cases ks with
      | nil => exact ⟨by simpa [mixPB] using hB, h⟩
      | cons k ks => simp at hl
    | cons o l => simp at hlen
  | cons b bs ih =>
    intro ks l listed a w hlen hl hB hC h
    cases l with
    | nil => simp at hlen
    | cons o l =>
      cases ks with
      | nil => simp at hl
      | cons k ks =>
        simp only [List.map_cons, List.cons.injEq] at hl
        obtain ⟨h0, hl'⟩ := hl
        have hlen' : bs.length = l.length := by simpa using hlen
        cases b with
        | true =>
          simp only [mixPB, Bool.and_eq_true] at hB
          obtain ⟨⟨hr, hf⟩, hB'⟩ := hB
          obtain ⟨v, hy, hK⟩ := h
          exact first_of h0 (Region.noSelect_spec hsel) (fun c a w => hQ c _ _ a w) l.length listed a w (Region.free_spec h0 hf) (by simpa using hr) hy hC (ih ks l _ _ w hlen' hl' hB' hC hK)
        | false =>
          simp only [mixPB, Bool.and_eq_true, decide_eq_true_eq] at hB
          obtain ⟨hw, h⟩ := h
          refine ⟨fun h1 => (by rw [hB.1] at h1; cases h1), fun i hi => ?_⟩
          rw [hB.1] at hi
          obtain rfl : i = k := by simpa using hi
          unfold wpOp
          simp only [h0, hw, if_true]
          exact .inl (Oper.wp_mono (fun b w' h' => ⟨h'.1, ih ks l _ b w' hlen' hl' hB.2 h'.1 h'.2⟩) h)
/-- Two neighbours change places. -/
def swapAt : Nat → List Oper → List Oper
  | 0, x :: y :: l => y :: x :: l
  | n + 1, x :: l => x :: swapAt n l
  | _, l => l
theorem wp_region_mixP {id : Nat} {a : Act} {w : World} {l : List Oper} (C : World → Prop) (l' : List Oper) (bs : List Bool) (ks : List Nat) (hm : P.follows .mixedOrders = true) (hB : (Region.noSelect l.toArray && (decide (bs.length = l'.length) && (decide (l'.length = l.length) && mixPB .any l.toArray bs ks (Array.replicate l.toArray.size false)))) = true)
    (hl : (ks.map fun k => l.toArray[k]?) = l'.map some)
    (hC : C { w with drawn := w.drawn + 1 }) (h : wpMix P l.toArray (NoPanic Q) C bs l' a { w with drawn := w.drawn + 1 }) : (Code.region id l.toArray true).wp P Q a w := by
  simp only [Bool.and_eq_true, decide_eq_true_eq] at hB
  refine wp_region_noPanic (wp_region_held (S := C) hm ?_)
  have h2 := any_of_mixP hB.1 (fun _ _ _ _ _ h => h) bs ks l' _ a _ hB.2.1 hl hB.2.2.2 hC h
  rw [hB.2.2.1] at h2
  exact h2
theorem wp_region_mixS {id : Nat} {a : Act} {w : World} {l : List Oper} (n : Nat) (C : World → Prop) (bs : List Bool) (ks : List Nat) (hm : P.follows .mixedOrders = true) (hB : (Region.noSelect l.toArray && (decide (bs.length = (swapAt n l).length) && (decide ((swapAt n l).length = l.length) && mixPB .any l.toArray bs ks (Array.replicate l.toArray.size false)))) = true)
    (hl : (ks.map fun k => l.toArray[k]?) = (swapAt n l).map some)
    (hC : C { w with drawn := w.drawn + 1 }) (h : ∀ w', C w' → wpMix P l.toArray (NoPanic Q) C bs (swapAt n l) a w') : (Code.region id l.toArray true).wp P Q a w :=
  wp_region_mixP C (swapAt n l) bs ks hm hB hl hC (h _ hC)
theorem mix_callC {o : Oper} {l : List Oper} {bs : List Bool} {a : Act} {w : World} (f : FuncId) (args : Array Value) (v : Value) (hw : Region.wanted o (yielded ops a.tmps) = true) (ho : ∀ w', (execOp a.eval o).run P w' = .ok (.enter f args) w')
    (hc : ∀ w', C w' → Calls P f args w' fun e w2 => e = .returned v ∧ w' = w2) (k : wpMix P ops Q C bs l (a.put o.dst v) w) : wpMix P ops Q C (true :: bs) (o :: l) a w :=
  ⟨v, by unfold YieldsC; rw [if_pos hw]; exact fun w' h => .inr ⟨f, args, ho w', hc w' h⟩, k⟩
theorem mix_stand_call {o : Oper} {l : List Oper} {bs : List Bool} {a : Act} {w : World} (f : FuncId) (args : Array Value) (v : Value) (hw : Region.wanted o (yielded ops a.tmps) = true) (ho : (execOp a.eval o).run P w = .ok (.enter f args) w)
    (hc : Calls P f args w fun e w2 => e = .returned v ∧ C w2) (k : ∀ w', C w' → wpMix P ops (NoPanic Q) C bs l (a.put o.dst v) w') : wpMix P ops (NoPanic Q) C (false :: bs) (o :: l) a w := by
  refine ⟨hw, ?_⟩
  simp only [Oper.wp, ho, Oper.upon]
  refine Calls.mono hc fun e w2 he => ?_
  obtain ⟨rfl, h2⟩ := he
  exact ⟨h2, k w2 h2⟩
theorem mix_stand {o : Oper} {l : List Oper} {bs : List Bool} {a : Act} {w : World} (w2 : World) (v : Value) (hw : Region.wanted o (yielded ops a.tmps) = true) (ho : (execOp a.eval o).run P w = .ok (.value v) w2) (hc : C w2) (k : wpMix P ops Q C bs l (a.put o.dst v) w2) : wpMix P ops Q C (false :: bs) (o :: l) a w := by
  refine ⟨hw, ?_⟩
  simp only [Oper.wp, ho, Oper.upon]
  exact ⟨hc, k⟩
end
end Go.Proofs.Ytngkfopdlkddnaa
