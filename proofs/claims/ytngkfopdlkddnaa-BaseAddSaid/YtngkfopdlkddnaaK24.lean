/- Contract of base.ascending. | The contract of the reference's put: an element goes to its place, unless its ID is there. -/
import Derived.Test.YtngkfopdlkddnaaK23
import Derived.Test.YtngkfopdlkddnaaK20
import Derived.Test.YtngkfopdlkddnaaK21
namespace Go.Proofs.Ytngkfopdlkddnaa
open Go Go.RowKit Go.Sort Go.Maps
theorem keysB_calls (b : Nat) (w : World) : Calls Try.prog 48 #[.map (some b)] w fun e w' =>
    ∃ B0, e = .returned (.func (.func 68) #[] #[.pointer (some ⟨B0, 0, none⟩)]) ∧ w'.cell? ⟨B0, 0, none⟩ = some (.map (some b)) ∧ Below w.heap.size w w' := by
  go_enter Try.func48, Try.ntmps48
  go_wp2_with fail
  go_ret
  refine ⟨_, rfl, ?_, (Below.refl _ w).alloc (Nat.le_refl _) _⟩
  rw [cell_of_row _ _ _ _ _ _ (heap_alloc_new w _)]; rfl
theorem ascending_calls (b : Nat) (es : List Ent) (w : World) (hM : BMap w b es) (hkeys : ∀ p ∈ es, ∃ k, InK k ∧ p.1 = kb k) (hl : es.length ≤ 100000) :
    Calls Try.prog 28 #[.map (some b)] w fun e W' =>
      ∃ v ds, e = .returned v ∧ Bs.AscK ltK ds ∧ AllKeys es ds ∧ KeysAt W' v ds ∧ Below w.heap.size w W' := by
  have HM := Lib.hid hM
  have HK := Lib.hid hkeys
  clear hM hkeys
  go_enter Try.func28, Try.ntmps28
  go_wp2_with fail
  refine (keysB_calls b w).mono ?_
  rintro e W1 ⟨B0, rfl, hc, hb⟩
  have HS := Lib.hid (sorted_calls B0 b es W1 hc (HM.out.below hb) HK.out hl)
  have HB := Lib.hid hb
  clear hc hb
  go_wp2_with fail
  refine HS.out.mono ?_
  rintro e W2 ⟨v, ds, rfl, ha, hk, ht, hb2⟩
  have HA := Lib.hid ha
  have HK2 := Lib.hid hk
  have HT := Lib.hid ht
  have HB2 := Lib.hid hb2
  clear ha hk ht hb2
  go_wp2_with fail
  go_ret
  exact ⟨v, ds, rfl, HA.out, HK2.out, HT.out, HB.out.trans (HB2.out.mono HB.out.size)⟩
end Go.Proofs.Ytngkfopdlkddnaa
namespace Go.Proofs.Ytngkfopdlkddnaa
open Go Go.RowKit Go.Maps
/-- What a function keeps that writes a set of the reference's: all blocks but the set's own two. -/
def KeptR (w W' : World) (p : Nat) (v : Value) : Prop := W'.os = w.os ∧ W'.tape = w.tape ∧ W'.output = w.output ∧ w.heap.size ≤ W'.heap.size ∧ ∀ k, k < w.heap.size → k ≠ p → v.ownBlock ≠ some k → W'.heap[k]? = w.heap[k]?
theorem KeptR.of {w W' : World} (h : Below w.heap.size w W') (p : Nat) (v : Value) : KeptR w W' p v := ⟨h.os, h.tape, h.output, h.size, fun k hk _ _ => h.block k hk⟩
theorem KeptR.below {w W' : World} {p : Nat} {v : Value} (h : KeptR w W' p v) {b : Nat} (hb : b ≤ w.heap.size) (hp : b ≤ p) (hv : ∀ g, v.ownBlock = some g → b ≤ g) : Below b w W' :=
  ⟨h.1, h.2.1, h.2.2.1, h.2.2.2.1, fun k hk => h.2.2.2.2 k (by omega) (by omega) (fun e => by have := hv k e; omega)⟩
/-- The row afterwards: the old one, or a new one. -/
def Turned (w : World) (v v' : Value) : Prop := v'.ownBlock = v.ownBlock ∨ ∃ g, v'.ownBlock = some g ∧ w.heap.size ≤ g
theorem KeptR.trans {w w1 w2 : World} {p : Nat} {v v1 : Value} (h : KeptR w w1 p v) (k : KeptR w1 w2 p v1) (ht : Turned w v v1) : KeptR w w2 p v :=
  ⟨k.1.trans h.1, k.2.1.trans h.2.1, k.2.2.1.trans h.2.2.1, Nat.le_trans h.2.2.2.1 k.2.2.2.1, fun i hi hp hv =>
    (k.2.2.2.2 i (Nat.lt_of_lt_of_le hi h.2.2.2.1) hp (fun e => by
      rcases ht with h1 | ⟨g, h1, h2⟩
      · rw [h1] at e; exact hv e
      · rw [h1] at e; have := Option.some.inj e; omega)).trans (h.2.2.2.2 i hi hp hv)⟩
theorem Turned.trans {w w1 : World} {v v1 v2 : Value} (hw : w.heap.size ≤ w1.heap.size) (h : Turned w v v1) (k : Turned w1 v1 v2) : Turned w v v2 := by
  rcases k with k | ⟨g, k, hg⟩
  · rcases h with h | ⟨g, h, hg⟩
    · exact .inl (k.trans h)
    · exact .inr ⟨g, k.trans h, hg⟩
  · exact .inr ⟨g, k, Nat.le_trans hw hg⟩
theorem kept_row {w w1 w2 : World} {p : Nat} {v : Value} (h : KeptR w w1 p v) (hg : w1.grownBy w2 v.ownBlock) : KeptR w w2 p v :=
  ⟨hg.os.trans h.1, hg.tape.trans h.2.1, hg.output.trans h.2.2.1, Nat.le_trans h.2.2.2.1 hg.size, fun k hk hp hv => (hg.block k (Nat.lt_of_lt_of_le hk h.2.2.2.1) (fun e => hv e.symm)).trans (h.2.2.2.2 k hk hp hv)⟩
theorem kept_other {w w1 w2 : World} {p g : Nat} {v : Value} (h : KeptR w w1 p v) (hg : w1.grownBy w2 (some g)) (hgv : g = p ∨ v.ownBlock = some g ∨ w.heap.size ≤ g) : KeptR w w2 p v :=
  ⟨hg.os.trans h.1, hg.tape.trans h.2.1, hg.output.trans h.2.2.1, Nat.le_trans h.2.2.2.1 hg.size, fun k hk hp hv => (hg.block k (Nat.lt_of_lt_of_le hk h.2.2.2.1) (fun e => by
    have e2 := Option.some.inj e
    rcases hgv with h1 | h1 | h1
    · exact hp (by rw [e2, h1])
    · exact hv (by rw [e2, h1])
    · omega)).trans (h.2.2.2.2 k hk hp hv)⟩
section
variable {P : Program} {md : Region.Mode} {ops : Array Oper} {C : World → Prop} {Q : Exit → Act → World → Prop}
/-- A beginning of quiet operations, in any order that the edges allow. -/
def preB (md : Region.Mode) (ops : Array Oper) : List Bool → List Nat → Array Bool → Array Bool → Bool
  | [], [], listed, listed' => decide (listed = listed')
  | true :: bs, k :: ks, listed, listed' => (Region.ready md ops listed).contains k && Region.free md ops listed k && preB md ops bs ks (listed.setIfInBounds k true) listed'
  | _, _, _, _ => false
/-- Where the beginning ends. -/
def EndsIn (T : Act → World → Prop) : Exit → Act → World → Prop
  | .normal, a, w => T a w
  | _, _, _ => True
theorem any_of_pre (hsel : Region.noSelect ops = true) (hQ : ∀ c o v a w, Q (.panic c) (Act.put a o v) w → Q (.panic c) a w) (rest : Nat) (listed' : Array Bool) (bs : List Bool) : ∀ (ks : List Nat) (l : List Oper) (listed : Array Bool) (a : Act) (w : World), (ks.map fun k => ops[k]?) = l.map some →
    preB md ops bs ks listed listed' = true → C w → wpMix P ops (EndsIn fun a w => wpAnyH P md ops Q C rest listed' a w) C bs l a w → wpAnyH P md ops Q C (l.length + rest) listed a w := by
  induction bs with
  | nil =>
    intro ks l listed a w hl hB _ h
    cases ks with
    | nil =>
      cases l with
      | nil =>
        have e : listed = listed' := by simpa [preB] using hB
        subst e
        rw [List.length_nil, Nat.zero_add]
        exact h
      | cons o l => simp at hl
    | cons k ks => simp [preB] at hB
  | cons b bs ih =>
    intro ks l listed a w hl hB hC h
    cases b with
    | false => cases ks <;> simp [preB] at hB
    | true =>
      cases ks with
      | nil => simp [preB] at hB
      | cons k ks =>
        cases l with
        | nil => simp at hl
        | cons o l =>
          simp only [List.map_cons, List.cons.injEq] at hl
          simp only [preB, Bool.and_eq_true] at hB
          obtain ⟨⟨hr, hf⟩, hB'⟩ := hB
          obtain ⟨v, hy, hK⟩ := h
          rw [List.length_cons, show l.length + 1 + rest = (l.length + rest) + 1 by omega]
          exact first_of hl.1 (Region.noSelect_spec hsel) (fun c a w => hQ c _ _ a w) _ listed a w (Region.free_spec hl.1 hf) (by simpa using hr) hy hC (ih ks l _ _ w hl.2 hB' hC hK)
/-- Two operations may come up. -/
theorem any_of_two {fuel : Nat} {listed : Array Bool} {a : Act} {w : World} (i j : Nat) {oi oj : Oper} (hr : Region.ready md ops listed = [i, j]) (hi : ops[i]? = some oi) (hj : ops[j]? = some oj) (wi : Region.wanted oi (yielded ops a.tmps) = true) (wj : Region.wanted oj (yielded ops a.tmps) = true)
    (h1 : oi.wp P a w (fun b w' => C w' ∧ wpAnyH P md ops Q C fuel (listed.setIfInBounds i true) b w') Q) (h2 : oj.wp P a w (fun b w' => C w' ∧ wpAnyH P md ops Q C fuel (listed.setIfInBounds j true) b w') Q) : wpAnyH P md ops Q C (fuel + 1) listed a w := by
  refine ⟨fun h => (by rw [hr] at h; cases h), fun k hk => ?_⟩
  rw [hr] at hk
  rcases List.mem_cons.1 hk with rfl | hk
  · unfold wpOp
    simp only [hi, wi, if_true]
    exact .inl h1
  · obtain rfl : k = j := by simpa using hk
    unfold wpOp
    simp only [hj, wj, if_true]
    exact .inl h2
theorem wp_of_val {o : Oper} {a : Act} {w : World} {K : Act → World → Prop} (w2 : World) (v : Value) (ho : (execOp a.eval o).run P w = .ok (.value v) w2) (k : K (a.put o.dst v) w2) : o.wp P a w K Q := by
  simp only [Oper.wp, ho, Oper.upon]
  exact k
theorem any_of_rest {lF : List Oper} {fuel : Nat} {listed : Array Bool} {a : Act} {w : World} (pick : List Oper → List Oper) (bs : List Bool) (ks : List Nat) (hsel : Region.noSelect lF.toArray = true) (hlen : bs.length = (pick lF).length) (hf : (pick lF).length = fuel)
    (hl : (ks.map fun k => lF.toArray[k]?) = (pick lF).map some) (hB : mixPB md lF.toArray bs ks listed = true) (hC : C w) (h : wpMix P lF.toArray (NoPanic Q) C bs (pick lF) a w) : wpAnyH P md lF.toArray (NoPanic Q) C fuel listed a w := by
  rw [← hf]
  exact any_of_mixP hsel (fun _ _ _ _ _ h => h) bs ks (pick lF) listed a w hlen hl hB hC h
theorem wp_region_pre {id : Nat} {a : Act} {w : World} {l : List Oper} (C D : World → Prop) (pick : List Oper → List Oper) (bs : List Bool) (ks : List Nat) (rest : Nat) (listed' : Array Bool) (hm : P.follows .mixedOrders = true) (hsel : Region.noSelect l.toArray = true)
    (hB : preB .any l.toArray bs ks (Array.replicate l.toArray.size false) listed' = true) (hl : (ks.map fun k => l.toArray[k]?) = (pick l).map some) (hn : (pick l).length + rest = l.toArray.size)
    (hC : C { w with drawn := w.drawn + 1 }) (hD : D { w with drawn := w.drawn + 1 }) (h : ∀ w', C w' → D w' → wpMix P l.toArray (EndsIn fun a w => wpAnyH P .any l.toArray (NoPanic Q) C rest listed' a w) C bs (pick l) a w') : (Code.region id l.toArray true).wp P Q a w := by
  refine wp_region_noPanic (wp_region_held (S := C) hm ?_)
  have h2 := any_of_pre hsel (fun _ _ _ _ _ h => h) rest listed' bs ks (pick l) _ a _ hl hB hC (h _ hC hD)
  rw [hn] at h2
  exact h2
end
section
variable {P : Program} {Q : Exit → Act → World → Prop}
theorem wp_region_mixD {id : Nat} {a : Act} {w : World} {l : List Oper} (C D : World → Prop) (bs : List Bool) (hm : P.follows .mixedOrders = true) (hB : (Region.noSelect l.toArray && (decide (bs.length = l.length) && mixB .any l.toArray bs 0 (Array.replicate l.toArray.size false))) = true)
    (hC : C { w with drawn := w.drawn + 1 }) (hD : D { w with drawn := w.drawn + 1 }) (h : ∀ w', C w' → D w' → wpMix P l.toArray (NoPanic Q) C bs l a w') : (Code.region id l.toArray true).wp P Q a w :=
  wp_region_mix C bs hm hB hC (h _ hC hD)
end
theorem grown_setCellP (w : World) (a : Addr) (u : Value) : w.grownBy (w.setCell a u) (some a.block) :=
  ⟨rfl, rfl, rfl, by simp, fun k hk hne => by
    have : k ≠ a.block := fun e => hne (by rw [e])
    simp only [World.setCell]
    rw [Array.getElem?_modify, if_neg (fun e => this e.symm)]⟩
section
variable {ops : Array Oper} {C : World → Prop} {Q : Exit → Act → World → Prop}
theorem mix_append2 {P : Program} {o : Oper} {l : List Oper} {bs : List Bool} {a : Act} {w : World} (s x : Operand) (t : TypeId) (ho : o.op = .call { callee := .builtin .append, args := #[s, x], argTypes := #[t, t] }) (v u : Value) (hs : a.eval s = v) (hx : a.eval x = u) {v' : Value} {w' : World}
    (hr : (Builtin.append_ #[t, t] o.type #[v, u]).run P w = .ok v' w') (hw : Region.wanted o (yielded ops a.tmps) = true) (hc : C w') (k : wpMix P ops Q C bs l (a.put o.dst v') w') : wpMix P ops Q C (false :: bs) (o :: l) a w :=
  ⟨hw, wp_append_run s x t ho v u hs hx hr ⟨hc, k⟩⟩
theorem mix_copy {P : Program} {o : Oper} {l : List Oper} {bs : List Bool} {a : Act} {w : World} (s x : Operand) (t : TypeId) (ho : o.op = .call { callee := .builtin .copy, args := #[s, x], argTypes := #[t, t] }) (v u : Value) (hs : a.eval s = v) (hx : a.eval x = u) {v' : Value} {w' : World}
    (hr : (Builtin.copy_ #[t, t] o.type #[v, u]).run P w = .ok v' w') (hw : Region.wanted o (yielded ops a.tmps) = true) (hc : C w') (k : wpMix P ops Q C bs l (a.put o.dst v') w') : wpMix P ops Q C (false :: bs) (o :: l) a w := by
  refine ⟨hw, ?_⟩
  unfold Oper.wp execOp
  simp only [ho, resolve, invoke, builtin, Sem.run_bind, Sem.run_pure, Result.andThen_ok, List.map_toArray, List.map_cons, List.map_nil, hs, hx, hr]
  exact ⟨hc, k⟩
theorem mix_store_at {P : Program} {o : Oper} {l : List Oper} {bs : List Bool} {a : Act} {w : World} (ty : TypeId) (x y : Operand) (ho : o.op = .store ty x y) (p : Addr) (cells : Array Value) (hx : a.eval x = .pointer (some p)) (hy : a.eval y = .agg cells) {w2 : World}
    (hst : (storeVar ty p (.agg cells)).run P w = .ok () w2) (hw : Region.wanted o (yielded ops a.tmps) = true) (hc : C w2) (k : wpMix P ops Q C bs l (a.put o.dst undef) w2) : wpMix P ops Q C (false :: bs) (o :: l) a w := by
  refine ⟨hw, ?_⟩
  unfold Oper.wp execOp
  simp only [ho, hx, hy, Instr.storeAt, Instr.sureAddr, Sem.run_bind, Sem.run_pure, Result.andThen_ok, hst]
  exact ⟨hc, k⟩
theorem mix_skip {P : Program} {o : Oper} {l : List Oper} {bs : List Bool} {a : Act} {w : World} (w2 : World) (hw : Region.wanted o (yielded ops a.tmps) = true) (ho : (execOp a.eval o).run P w = .ok .skip w2) (hc : C w2) (k : wpMix P ops Q C bs l (a.put o.dst undef) w2) : wpMix P ops Q C (false :: bs) (o :: l) a w := by
  refine ⟨hw, ?_⟩
  simp only [Oper.wp, ho, Oper.upon]
  exact ⟨hc, k⟩
end
end Go.Proofs.Ytngkfopdlkddnaa
