/- Drawn regions over frames that are told by a function of the slot: small terms, however large the frame. Our own; for any program. | A drawn region in which several operations may come in whatever order, each keeping what is said. Our own; for any program. -/
import Derived.Test.YtngkfopdlkddnaaK24
namespace Go.Proofs.Ytngkfopdlkddnaa
open Go Go.RowKit
def upd (f : Nat → Value) (d : Nat) (v : Value) : Nat → Value := fun t => if t = d then v else f t
def updO (f : Nat → Value) : Option Nat → Value → Nat → Value
  | some d, v => upd f d v
  | none, _ => f
/-- The operands by such a function. -/
def evF (f : Nat → Value) : Operand → Value
  | .tmp t => f t
  | .const v => v
  | .global g => .pointer (some ⟨g, 0, none⟩)
  | .func g => .func (.func g) #[] #[]
/-- The function tells the frame. -/
def Rep (n : Nat) (a : Act) (f : Nat → Value) : Prop := a.tmps.size = n ∧ ∀ t, a.tmps.getD t undef = f t
theorem Rep.eval {n : Nat} {a : Act} {f : Nat → Value} (h : Rep n a f) : a.eval = evF f := by
  funext x
  cases x with
  | tmp t => exact h.2 t
  | const v => rfl
  | «global» g => rfl
  | func g => rfl
theorem getD_set (xs : Array Value) (d t : Nat) (v : Value) (hd : d < xs.size) : (xs.setIfInBounds d v).getD t undef = if t = d then v else xs.getD t undef := by
  simp only [Array.getD_eq_getD_getElem?, Array.getElem?_setIfInBounds]
  by_cases h : d = t
  · subst h; simp [hd]
  · simp [h, Ne.symm h]
theorem Rep.put {n : Nat} {a : Act} {f : Nat → Value} (h : Rep n a f) {d : Nat} (hd : d < n) (v : Value) : Rep n (a.put (some d) v) (upd f d v) := by
  refine ⟨by simp [Act.put, h.1], fun t => ?_⟩
  show (a.tmps.setIfInBounds d v).getD t undef = _
  rw [getD_set _ _ _ _ (by rw [h.1]; exact hd)]
  unfold upd
  rw [h.2 t]
theorem Rep.know {n : Nat} {a : Act} {f : Nat → Value} (h : Rep n a f) {d : Nat} {v : Value} (hd : f d = v) : Rep n a (upd f d v) := by
  refine ⟨h.1, fun t => ?_⟩
  unfold upd
  rw [h.2 t]
  split
  · rename_i e; rw [e, hd]
  · rfl
theorem Rep.ext {n : Nat} {a b : Act} {f : Nat → Value} (h : Rep n a f) (k : Rep n b f) (hd : a.defers = b.defers) : a = b := by
  obtain ⟨xs, ds⟩ := a
  obtain ⟨ys, es⟩ := b
  obtain rfl : ds = es := hd
  have : xs = ys := by
    apply Array.ext (by rw [show xs.size = n from h.1, show ys.size = n from k.1])
    intro i h1 h2
    have e := (h.2 i).trans (k.2 i).symm
    simp only [Array.getD_eq_getD_getElem?, Array.getElem?_eq_getElem h1, Array.getElem?_eq_getElem h2, Option.getD_some] at e
    exact e
  rw [this]
def putL (a : Act) : List (Nat × Value) → Act
  | [] => a
  | x :: l => putL (a.put (some x.1) x.2) l
def updL (f : Nat → Value) : List (Nat × Value) → Nat → Value
  | [] => f
  | x :: l => updL (upd f x.1 x.2) l
theorem Rep.putL {n : Nat} {a : Act} {f : Nat → Value} (h : Rep n a f) (l : List (Nat × Value)) (hl : l.all (fun x => decide (x.1 < n)) = true) : Rep n (Go.Proofs.Ytngkfopdlkddnaa.putL a l) (updL f l) := by
  induction l generalizing a f with
  | nil => exact h
  | cons x l ih =>
    simp only [List.all_cons, Bool.and_eq_true, decide_eq_true_eq] at hl
    exact ih (h.put hl.1 x.2) hl.2
theorem putL_defers (l : List (Nat × Value)) : ∀ a : Act, (putL a l).defers = a.defers := by
  induction l with
  | nil => exact fun _ => rfl
  | cons x l ih => exact fun a => ih _
theorem rep_self {a : Act} {n : Nat} (h : a.tmps.size = n) : Rep n a (fun t => a.tmps.getD t undef) := ⟨h, fun _ => rfl⟩
/-- What guards ask. -/
def yF (ops : Array Oper) (f : Nat → Value) (j : Nat) : Option Bool :=
  match (ops[j]?).bind (·.dst) with
  | some d => (match f d with | .bool b => some b | _ => none)
  | none => none
theorem Rep.yields {n : Nat} {a : Act} {f : Nat → Value} (h : Rep n a f) (ops : Array Oper) : yielded ops a.tmps = yF ops f := by
  funext j
  unfold yielded yF
  cases (ops[j]?).bind (·.dst) with
  | none => rfl
  | some d =>
    have e := h.2 d
    simp only [Array.getD_eq_getD_getElem?] at e
    simp only [Option.bind_some]
    cases hx : a.tmps[d]? with
    | none => rw [hx] at e; rw [← e]; rfl
    | some x => rw [hx] at e; rw [← e]; cases x <;> rfl
def fitB (n : Nat) (l : List Oper) : Bool := l.all fun o => match o.dst with | some d => decide (d < n) | none => true
theorem Rep.putO {n : Nat} {a : Act} {f : Nat → Value} (h : Rep n a f) {o : Oper} {l : List Oper} (hl : fitB n (o :: l) = true) (v : Value) : Rep n (a.put o.dst v) (updO f o.dst v) := by
  simp only [fitB, List.all_cons, Bool.and_eq_true] at hl
  cases hd : o.dst with
  | none => exact h
  | some d => rw [hd] at hl; exact h.put (by simpa using hl.1) v
theorem put_defers {a : Act} {o : Option Tmp} {v : Value} : (a.put o v).defers = a.defers := by cases o <;> rfl
/-- An operation that stands alone. -/
def StandsF (P : Program) (r : Sem Next) (w : World) (K : Value → World → Prop) : Prop :=
  (∃ v w2, r.run P w = .ok (.value v) w2 ∧ K v w2) ∨ (∃ w2, r.run P w = .ok .skip w2 ∧ K undef w2) ∨ ∃ g args, r.run P w = .ok (.enter g args) w ∧ Calls P g args w fun e w2 => ∃ v, e = .returned v ∧ K v w2
def wpF (P : Program) (ops : Array Oper) (C : World → Prop) (T : (Nat → Value) → World → Prop) : List Bool → List Oper → (Nat → Value) → World → Prop
  | true :: bs, o :: l, f, w => ∃ v, (if Region.wanted o (yF ops f) = true then ∀ w, C w → RunsTo P (execOp (evF f) o) v w else v = undef) ∧ wpF P ops C T bs l (updO f o.dst v) w
  | false :: bs, o :: l, f, w => Region.wanted o (yF ops f) = true ∧ StandsF P (execOp (evF f) o) w fun v w2 => C w2 ∧ wpF P ops C T bs l (updO f o.dst v) w2
  | _, _, f, w => T f w
section
variable {P : Program} {ops : Array Oper} {C : World → Prop} {T : (Nat → Value) → World → Prop} {Q : Exit → Act → World → Prop}
theorem mix_of_F {n : Nat} (ds : List Deferred) (hT : ∀ a f w, Rep n a f → a.defers = ds → T f w → Q .normal a w) (bs : List Bool) : ∀ (l : List Oper) (a : Act) (f : Nat → Value) (w : World), fitB n l = true → Rep n a f → a.defers = ds → wpF P ops C T bs l f w → wpMix P ops Q C bs l a w := by
  induction bs with
  | nil =>
    intro l a f w _ hr hd h
    cases l <;> exact hT a f w hr hd h
  | cons b bs ih =>
    intro l a f w hl hr hd h
    cases l with
    | nil => cases b <;> exact hT a f w hr hd h
    | cons o l =>
      have hl' : fitB n l = true := by simp only [fitB, List.all_cons, Bool.and_eq_true] at hl; exact hl.2
      have hp := fun v => hr.putO hl v
      have hd' : ∀ v, (a.put o.dst v).defers = ds := fun v => put_defers.trans hd
      cases b with
      | true =>
        obtain ⟨v, hy, hk⟩ := h
        refine ⟨v, ?_, ih l _ _ w hl' (hp v) (hd' v) hk⟩
        unfold YieldsC
        rw [hr.yields, hr.eval]
        exact hy
      | false =>
        obtain ⟨hw, hs⟩ := h
        refine ⟨by rw [hr.yields]; exact hw, ?_⟩
        unfold Oper.wp
        rw [hr.eval]
        rcases hs with ⟨v, w2, e, hc, hk⟩ | ⟨w2, e, hc, hk⟩ | ⟨g, args, e, hc⟩
        · rw [e]; exact ⟨hc, ih l _ _ w2 hl' (hp v) (hd' v) hk⟩
        · rw [e]; exact ⟨hc, ih l _ _ w2 hl' (hp undef) (hd' undef) hk⟩
        · rw [e]
          refine Calls.mono hc ?_
          rintro e2 w2 ⟨v, rfl, hc2, hk⟩
          exact ⟨hc2, ih l _ _ w2 hl' (hp v) (hd' v) hk⟩
/-- A drawn region, its frame told by a function, in the order that exchanges of neighbours make. -/
theorem wp_region_F {id : Nat} {a : Act} {w : World} {l : List Oper} (n : Nat) (f : Nat → Value) (ss : List Nat) (C D : World → Prop) (T : (Nat → Value) → World → Prop) (bs : List Bool) (ks : List Nat) (hm : P.follows .mixedOrders = true)
    (hB : (Region.noSelect l.toArray && (decide (bs.length = (ss.foldl (fun l n => swapAt n l) l).length) && (decide ((ss.foldl (fun l n => swapAt n l) l).length = l.length) && mixPB .any l.toArray bs ks (Array.replicate l.toArray.size false)))) = true)
    (hl : (ks.map fun k => l.toArray[k]?) = (ss.foldl (fun l n => swapAt n l) l).map some) (hfit : fitB n (ss.foldl (fun l n => swapAt n l) l) = true) (hr : Rep n a f)
    (hC : C { w with drawn := w.drawn + 1 }) (hD : D { w with drawn := w.drawn + 1 }) (h : ∀ w', C w' → D w' → wpF P l.toArray C T bs (ss.foldl (fun l n => swapAt n l) l) f w')
    (hT : ∀ a' f' w', Rep n a' f' → a'.defers = a.defers → T f' w' → Q .normal a' w') : (Code.region id l.toArray true).wp P Q a w :=
  wp_region_mixP C (ss.foldl (fun l n => swapAt n l) l) bs ks hm hB hl hC (mix_of_F (Q := NoPanic Q) a.defers (fun a' f' w' h1 h2 h3 => hT a' f' w' h1 h2 h3) bs _ a f _ hfit hr rfl (h _ hC hD))
theorem f_val {o : Oper} {l : List Oper} {bs : List Bool} {f : Nat → Value} {w : World} (v : Value) (hw : Region.wanted o (yF ops f) = true) (hv : ∀ w', C w' → (execOp (evF f) o).run P w' = .ok (.value v) w') (k : wpF P ops C T bs l (updO f o.dst v) w) : wpF P ops C T (true :: bs) (o :: l) f w :=
  ⟨v, by rw [if_pos hw]; exact fun w' hc => .inl (hv w' hc), k⟩
theorem f_off {o : Oper} {l : List Oper} {bs : List Bool} {f : Nat → Value} {w : World} (hw : Region.wanted o (yF ops f) = false) (k : wpF P ops C T bs l (updO f o.dst undef) w) : wpF P ops C T (true :: bs) (o :: l) f w :=
  ⟨undef, by rw [if_neg (by rw [hw]; decide)], k⟩
theorem f_call {o : Oper} {l : List Oper} {bs : List Bool} {f : Nat → Value} {w : World} (g : FuncId) (args : Array Value) (v : Value) (hw : Region.wanted o (yF ops f) = true) (ho : ∀ w', (execOp (evF f) o).run P w' = .ok (.enter g args) w')
    (hc : ∀ w', C w' → Calls P g args w' fun e w2 => e = .returned v ∧ w' = w2) (k : wpF P ops C T bs l (updO f o.dst v) w) : wpF P ops C T (true :: bs) (o :: l) f w :=
  ⟨v, by rw [if_pos hw]; exact fun w' h => .inr ⟨g, args, ho w', hc w' h⟩, k⟩
theorem f_stand {o : Oper} {l : List Oper} {bs : List Bool} {f : Nat → Value} {w : World} (v : Value) (w2 : World) (hw : Region.wanted o (yF ops f) = true) (ho : (execOp (evF f) o).run P w = .ok (.value v) w2) (hc : C w2) (k : wpF P ops C T bs l (updO f o.dst v) w2) : wpF P ops C T (false :: bs) (o :: l) f w :=
  ⟨hw, .inl ⟨v, w2, ho, hc, k⟩⟩
theorem f_skip {o : Oper} {l : List Oper} {bs : List Bool} {f : Nat → Value} {w : World} (w2 : World) (hw : Region.wanted o (yF ops f) = true) (ho : (execOp (evF f) o).run P w = .ok .skip w2) (hc : C w2) (k : wpF P ops C T bs l (updO f o.dst undef) w2) : wpF P ops C T (false :: bs) (o :: l) f w :=
  ⟨hw, .inr (.inl ⟨w2, ho, hc, k⟩)⟩
theorem f_enter {o : Oper} {l : List Oper} {bs : List Bool} {f : Nat → Value} {w : World} (R : Value → World → Prop) (g : FuncId) (args : Array Value) (hw : Region.wanted o (yF ops f) = true) (ho : (execOp (evF f) o).run P w = .ok (.enter g args) w)
    (hc : Calls P g args w fun e w2 => ∃ v, e = .returned v ∧ R v w2 ∧ C w2) (k : ∀ v w', R v w' → C w' → wpF P ops C T bs l (updO f o.dst v) w') : wpF P ops C T (false :: bs) (o :: l) f w :=
  ⟨hw, .inr (.inr ⟨g, args, ho, hc.mono fun _ w2 ⟨v, he, h1, h2⟩ => ⟨v, he, h2, k v w2 h1 h2⟩⟩)⟩
theorem f_done {f : Nat → Value} {w : World} (h : T f w) : wpF P ops C T [] [] f w := h
end
theorem stands_mono {P : Program} {r : Sem Next} {w : World} {K K' : Value → World → Prop} (h : StandsF P r w K) (hk : ∀ v w2, K v w2 → K' v w2) : StandsF P r w K' := by
  rcases h with ⟨v, w2, e, h⟩ | ⟨w2, e, h⟩ | ⟨g, args, e, hc⟩
  · exact .inl ⟨v, w2, e, hk _ _ h⟩
  · exact .inr (.inl ⟨w2, e, hk _ _ h⟩)
  · exact .inr (.inr ⟨g, args, e, hc.mono fun _ w2 ⟨v, he, h⟩ => ⟨v, he, hk _ _ h⟩⟩)
theorem upd_comm (f : Nat → Value) {d e : Nat} (v u : Value) (h : d ≠ e) : upd (upd f d v) e u = upd (upd f e u) d v := by
  funext t
  unfold upd
  by_cases h1 : t = d
  · subst h1; simp [h]
  · simp [h1]
section
variable {P : Program} {C : World → Prop} {T : (Nat → Value) → World → Prop} {Q : Exit → Act → World → Prop}
theorem wp_of_StandsF {n : Nat} {o : Oper} {a : Act} {f : Nat → Value} {w : World} {K : Act → World → Prop} (hr : Rep n a f) (hf : fitB n [o] = true) (h : StandsF P (execOp (evF f) o) w fun v w2 => ∀ b, Rep n b (updO f o.dst v) → b.defers = a.defers → K b w2) : o.wp P a w K Q := by
  have hp := fun v => hr.putO hf v
  unfold Oper.wp
  rw [hr.eval]
  rcases h with ⟨v, w2, e, hk⟩ | ⟨w2, e, hk⟩ | ⟨g, args, e, hc⟩
  · rw [e]; exact hk _ (hp v) put_defers
  · rw [e]; exact hk _ (hp undef) put_defers
  · rw [e]
    refine Calls.mono hc ?_
    rintro e2 w2 ⟨v, rfl, hk⟩
    exact hk _ (hp v) put_defers
/-- A drawn region in which, behind a beginning of quiet operations, two may come up. -/
theorem wp_region_two {id : Nat} {a : Act} {w : World} {l : List Oper} (n : Nat) (f : Nat → Value) (C D : World → Prop) (T : (Nat → Value) → World → Prop) (p0 pA pB : List Oper → List Oper) (bs0 bsA bsB : List Bool) (ks0 ksA ksB : List Nat) (fuel : Nat) (L : Array Bool) (i j : Nat) (oi oj : Oper) (hm : P.follows .mixedOrders = true) (hsel : Region.noSelect l.toArray = true)
    (hB0 : preB .any l.toArray bs0 ks0 (Array.replicate l.toArray.size false) L = true) (hl0 : (ks0.map fun k => l.toArray[k]?) = (p0 l).map some) (hn : (p0 l).length + (fuel + 1) = l.toArray.size) (h2 : Region.ready .any l.toArray L = [i, j]) (hi : l.toArray[i]? = some oi) (hj : l.toArray[j]? = some oj)
    (hA1 : bsA.length = (pA l).length) (hA2 : (pA l).length = fuel) (hA3 : (ksA.map fun k => l.toArray[k]?) = (pA l).map some) (hA4 : mixPB .any l.toArray bsA ksA (L.setIfInBounds i true) = true)
    (hB1 : bsB.length = (pB l).length) (hB2 : (pB l).length = fuel) (hB3 : (ksB.map fun k => l.toArray[k]?) = (pB l).map some) (hB4 : mixPB .any l.toArray bsB ksB (L.setIfInBounds j true) = true)
    (hf0 : fitB n (p0 l) = true) (hfi : fitB n [oi] = true) (hfj : fitB n [oj] = true) (hfA : fitB n (pA l) = true) (hfB : fitB n (pB l) = true) (hr : Rep n a f) (hC : C { w with drawn := w.drawn + 1 }) (hD : D { w with drawn := w.drawn + 1 })
    (h : ∀ w', C w' → D w' → wpF P l.toArray C (fun f' w2 => (Region.wanted oi (yF l.toArray f') = true ∧ StandsF P (execOp (evF f') oi) w2 fun v w3 => C w3 ∧ wpF P l.toArray C T bsA (pA l) (updO f' oi.dst v) w3) ∧
      (Region.wanted oj (yF l.toArray f') = true ∧ StandsF P (execOp (evF f') oj) w2 fun v w3 => C w3 ∧ wpF P l.toArray C T bsB (pB l) (updO f' oj.dst v) w3)) bs0 (p0 l) f w')
    (hT : ∀ a' f' w', Rep n a' f' → a'.defers = a.defers → T f' w' → Q .normal a' w') : (Code.region id l.toArray true).wp P Q a w := by
  refine wp_region_pre C D p0 bs0 ks0 (fuel + 1) L hm hsel hB0 hl0 hn hC hD ?_
  intro w' hC' hD'
  refine mix_of_F a.defers ?_ bs0 (p0 l) a f w' hf0 hr rfl (h w' hC' hD')
  intro a2 f2 w2 hr2 hd2 ⟨⟨wi, si⟩, wj, sj⟩
  refine any_of_two i j h2 hi hj (by rw [hr2.yields]; exact wi) (by rw [hr2.yields]; exact wj) ?_ ?_
  · refine wp_of_StandsF hr2 hfi (stands_mono si ?_)
    rintro v w3 ⟨hC3, hk⟩ b hb hdb
    exact ⟨hC3, any_of_rest pA bsA ksA hsel hA1 hA2 hA3 hA4 hC3 (mix_of_F (Q := NoPanic Q) a.defers (fun a' f' w' h1 h2 h3 => hT a' f' w' h1 h2 h3) bsA _ b _ w3 hfA hb (hdb.trans hd2) hk)⟩
  · refine wp_of_StandsF hr2 hfj (stands_mono sj ?_)
    rintro v w3 ⟨hC3, hk⟩ b hb hdb
    exact ⟨hC3, any_of_rest pB bsB ksB hsel hB1 hB2 hB3 hB4 hC3 (mix_of_F (Q := NoPanic Q) a.defers (fun a' f' w' h1 h2 h3 => hT a' f' w' h1 h2 h3) bsB _ b _ w3 hfB hb (hdb.trans hd2) hk)⟩
end
theorem run_call_fn {P : Program} (ρ : Operand → Value) (o : Oper) (g : FuncId) (args : List Operand) (ts : Array TypeId) (vals : List Value) (w : World) (ho : o.op = .call { callee := .value (.func g), args := args.toArray, argTypes := ts }) (hg : ρ (.func g) = .func (.func g) #[] #[]) (hv : args.map ρ = vals)
    (he : (callFunc g vals.toArray).run P w = .ok (.enter g vals.toArray) w) : (execOp ρ o).run P w = .ok (.enter g vals.toArray) w := by
  unfold execOp
  simp only [ho, resolve, List.map_toArray, hg, hv, Deferred.ofValue, Sem.run_bind, Sem.run_pure, Result.andThen_ok]
  simp [invoke, he]
/-- The statement itself, by its number. -/
def findC (id : Nat) : Code → Option Code
  | .region i ops d => if i = id then some (.region i ops d) else none
  | .seq a b => match findC id a with | some x => some x | none => findC id b
  | .cond _ a b => match findC id a with | some x => some x | none => findC id b
  | .block _ a => findC id a
  | .loop a => findC id a
  | .scope a => findC id a
  | .rangeFunc _ _ a b => match findC id a with | some x => some x | none => findC id b
  | _ => none
end Go.Proofs.Ytngkfopdlkddnaa
namespace Go.Proofs.Ytngkfopdlkddnaa
open Go Go.RowKit
/-- What the edges must be: of those that are left only the bag's are ever ready while one of the bag is left. -/
def bagB (md : Region.Mode) (ops : Array Oper) (J : List Nat) (L : Array Bool) : Bool :=
  decide (L.size = ops.size) && J.all (fun j => decide (j < ops.size) && L.getD j false) && (List.range ops.size).all fun i => match ops[i]? with
    | none => true
    | some o => if J.contains i then o.after.toList.all (fun e => !Region.binds md e || (!J.contains e.on && L.getD e.on false)) else L.getD i true || J.all (fun j => o.after.toList.any fun e => Region.binds md e && e.on == j) || o.after.toList.any fun e => Region.binds md e && !J.contains e.on && !L.getD e.on false
section
variable {P : Program} {md : Region.Mode} {ops : Array Oper} {C : World → Prop} {Q : Exit → Act → World → Prop}
/-- Those of the bag that are left are not listed; the others are as L has them. -/
def Left (L listed : Array Bool) (J : List Nat) : Prop := listed.size = L.size ∧ ∀ i, i < L.size → listed.getD i true = if i ∈ J then false else L.getD i true
theorem getD_in {xs : Array Bool} {i : Nat} (h : i < xs.size) : xs.getD i true = xs.getD i false := by
  simp [Array.getElem?_eq_getElem h]
theorem getD_out {xs : Array Bool} {i : Nat} {d : Bool} (h : xs.size ≤ i) : xs.getD i d = d := by
  simp [Array.getElem?_eq_none h]
theorem bag_ready {J0 : List Nat} {L listed : Array Bool} {J : List Nat} (hb : bagB md ops J0 L = true) (hJ : ∀ j ∈ J, j ∈ J0) (hne : J ≠ []) (hL : Left L listed J) : (∀ i ∈ Region.ready md ops listed, i ∈ J) ∧ Region.ready md ops listed ≠ [] := by
  unfold bagB at hb
  simp only [Bool.and_eq_true, decide_eq_true_eq, List.all_eq_true, List.mem_range] at hb
  obtain ⟨⟨hsz, hlt⟩, hall⟩ := hb
  constructor
  · intro i hi
    obtain ⟨hun, o, ho, hafter⟩ := mem_ready.1 hi
    have hio : i < ops.size := (Array.getElem?_eq_some_iff.1 ho).1
    have hz := hL.2 i (by omega)
    rw [hun] at hz
    by_cases hm : i ∈ J
    · exact hm
    · exfalso
      rw [if_neg hm] at hz
      have h := hall i hio
      rw [ho] at h
      simp only at h
      by_cases hm0 : i ∈ J0
      · have := (hlt i hm0).2
        rw [← getD_in (by omega), ← hz] at this
        cases this
      · rw [if_neg (by simpa using hm0), ← hz] at h
        simp only [Bool.false_or, Bool.or_eq_true] at h
        rcases h with h | h
        · obtain ⟨j, hj⟩ := List.exists_mem_of_ne_nil J hne
          have h1 := List.all_eq_true.1 h j (hJ j hj)
          obtain ⟨e, he, h2⟩ := List.any_eq_true.1 h1
          simp only [Bool.and_eq_true, beq_iff_eq] at h2
          have h3 := hafter e (by simpa using he) h2.1
          have hjs := (hlt j (hJ j hj)).1
          have h4 := hL.2 j (by omega)
          rw [if_pos hj, getD_in (by rw [hL.1]; omega)] at h4
          rw [h2.2, h4] at h3
          cases h3
        · obtain ⟨e, he, h2⟩ := List.any_eq_true.1 h
          simp only [Bool.and_eq_true, Bool.not_eq_true'] at h2
          obtain ⟨⟨h5, h6⟩, h7⟩ := h2
          have h3 := hafter e (by simpa using he) h5
          have hno : e.on ∉ J := fun hh => by
            have := hJ _ hh
            rw [List.contains_iff_mem.2 this] at h6
            cases h6
          by_cases hr : e.on < L.size
          · have h4 := hL.2 e.on hr
            rw [if_neg hno, getD_in (by rw [hL.1]; exact hr), getD_in hr, h7] at h4
            rw [h4] at h3; cases h3
          · rw [getD_out (by rw [hL.1]; omega)] at h3; cases h3
  · obtain ⟨j, hj⟩ := List.exists_mem_of_ne_nil J hne
    have hj0 := hJ j hj
    obtain ⟨hjs, hjl⟩ := hlt j hj0
    have hjs' : j < ops.size := by simpa using hjs
    have hmem : j ∈ Region.ready md ops listed := by
      refine mem_ready.2 ⟨by rw [hL.2 j (by omega), if_pos hj], ops[j], Array.getElem?_eq_getElem hjs', fun e he hbd => ?_⟩
      have h := hall j hjs'
      rw [Array.getElem?_eq_getElem hjs'] at h
      simp only at h
      rw [if_pos (List.contains_iff_mem.2 hj0)] at h
      have h1 := List.all_eq_true.1 h e (by simpa using he)
      rw [hbd] at h1
      simp only [Bool.not_true, Bool.false_or, Bool.and_eq_true, Bool.not_eq_true'] at h1
      have hno : e.on ∉ J := fun hh => by
        have := hJ _ hh
        rw [List.contains_iff_mem.2 this] at h1
        cases h1.1
      have hr : e.on < L.size := by
        apply Nat.lt_of_not_le
        intro hh
        rw [getD_out hh] at h1
        cases h1.2
      have h4 := hL.2 e.on hr
      rw [if_neg hno, getD_in (by rw [hL.1]; exact hr), getD_in hr] at h4
      rw [h4]; exact h1.2
    intro he
    rw [he] at hmem
    cases hmem
theorem Left.step {L listed : Array Bool} {J : List Nat} (hL : Left L listed J) (hn : J.Nodup) {i : Nat} (hLi : L.getD i false = true) : Left L (listed.setIfInBounds i true) (J.erase i) := by
  refine ⟨by rw [Array.size_setIfInBounds]; exact hL.1, fun k hk => ?_⟩
  by_cases hki : i = k
  · subst hki
    rw [if_neg (by rw [hn.mem_erase_iff]; simp)]
    rw [getD_in hk, hLi]
    simp [hL.1, hk]
  · rw [getD_set_ne true hki, hL.2 k hk]
    have : k ∈ J ↔ k ∈ J.erase i := by rw [hn.mem_erase_iff]; exact ⟨fun h => ⟨Ne.symm hki, h⟩, fun h => h.2⟩
    by_cases hm : k ∈ J
    · rw [if_pos hm, if_pos (this.1 hm)]
    · rw [if_neg hm, if_neg (fun h => hm (this.2 h))]
theorem any_of_bag {J0 : List Nat} {L : Array Bool} (hb : bagB md ops J0 L = true) (rest : Nat) (I : List Nat → Act → World → Prop)
    (hstep : ∀ (J : List Nat) (i : Nat) (o : Oper) (a : Act) (w : World), J.Nodup → (∀ j ∈ J, j ∈ J0) → i ∈ J → ops[i]? = some o → I J a w → C w → Region.wanted o (yielded ops a.tmps) = true ∧ o.wp P a w (fun b w' => C w' ∧ I (J.erase i) b w') Q)
    (hend : ∀ (a : Act) (w : World), I [] a w → C w → wpAnyH P md ops Q C rest L a w) (n : Nat) : ∀ (J : List Nat) (listed : Array Bool) (a : Act) (w : World), J.length = n → J.Nodup → (∀ j ∈ J, j ∈ J0) → Left L listed J → I J a w → C w → wpAnyH P md ops Q C (n + rest) listed a w := by
  induction n with
  | zero =>
    intro J listed a w hlen _ _ hL hI hC
    obtain rfl : J = [] := List.length_eq_zero_iff.1 hlen
    have : listed = L := by
      apply Array.ext hL.1
      intro i h1 h2
      have := hL.2 i h2
      simpa [Array.getElem?_eq_getElem h1, Array.getElem?_eq_getElem h2] using this
    subst this
    rw [Nat.zero_add]
    exact hend a w hI hC
  | succ n ih =>
    intro J listed a w hlen hn hJ hL hI hC
    have hne : J ≠ [] := fun e => by rw [e] at hlen; simp at hlen
    obtain ⟨h1, h2⟩ := bag_ready hb hJ hne hL
    rw [show n + 1 + rest = (n + rest) + 1 by omega]
    refine ⟨fun h => absurd h h2, fun i hi => ?_⟩
    have hiJ := h1 i hi
    obtain ⟨_, o, ho, _⟩ := mem_ready.1 hi
    obtain ⟨hw, ho2⟩ := hstep J i o a w hn hJ hiJ ho hI hC
    have hLi : L.getD i false = true := by
      have hb2 := hb
      unfold bagB at hb2
      simp only [Bool.and_eq_true, List.all_eq_true] at hb2
      exact (hb2.1.2 i (hJ i hiJ)).2
    unfold wpOp
    simp only [ho, hw, if_true]
    refine .inl (Oper.wp_mono (fun b w' h' => ⟨h'.1, ?_⟩) ho2)
    exact ih (J.erase i) _ b w' (by rw [List.length_erase_of_mem hiJ]; omega) (hn.erase i) (fun j hj => hJ j (List.mem_of_mem_erase hj)) (hL.step hn hLi) h'.2 h'.1
end
end Go.Proofs.Ytngkfopdlkddnaa
