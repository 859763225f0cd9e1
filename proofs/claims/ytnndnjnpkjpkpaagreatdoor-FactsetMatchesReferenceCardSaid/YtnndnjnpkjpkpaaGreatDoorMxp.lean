/- A drawn region taken in another order than the text's: as Mix, with the row of its operations given in the order in which they are taken. Our own; for any program. -/
import Derived.Test.YtnndnjnpkjpkpaaGreatDoorMix
namespace Go.Proofs.YtnndnjnpkjpkpaaGreatDoor
open Go Go.RowKit
section
variable {P : Program} {md : Region.Mode} {ops : Array Oper} {C : World → Prop} {Q : Exit → Act → World → Prop}
def mixPB (md : Region.Mode) (ops : Array Oper) : List Bool → List Nat → Array Bool → Bool
  | [], [], listed => (Region.ready md ops listed).isEmpty
  | true :: bs, k :: ks, listed => (Region.ready md ops listed).contains k && Region.free md ops listed k && mixPB md ops bs ks (listed.setIfInBounds k true)
  | false :: bs, k :: ks, listed => decide (Region.ready md ops listed = [k]) && mixPB md ops bs ks (listed.setIfInBounds k true)
  | _, _, _ => false
theorem any_of_mixP (hsel : Region.noSelect ops = true) (hQ : ∀ c o v a w, Q (.panic c) (Act.put a o v) w → Q (.panic c) a w) (bs : List Bool) : ∀ (ks : List Nat) (l : List Oper) (listed : Array Bool) (a : Act) (w : World), bs.length = l.length → (ks.map fun k => ops[k]?) = l.map some →
    mixPB md ops bs ks listed = true → C w → wpMix P ops Q C bs l a w → wpAnyH P md ops Q C l.length listed a w := by
  induction bs with
  | nil =>
    intro ks l listed a w hlen hl hB _ h
    cases l with
    | nil =>
      cases ks with
      | nil => exact ⟨by simpa [mixPB] using hB, h⟩
      | cons k ks => simp at hl
    | cons o l => simp at hlen
  | cons b bs ih =>
    intro ks l listed a w hlen hl hB hC h
    cases l with
    | nil => simp at hlen
    | cons o l =>
      cases ks with
      | nil => simp at hl
      | cons k ks =>
        simp only [List.map_cons, List.cons.injEq] at hl
        obtain ⟨h0, hl'⟩ := hl
        have hlen' : bs.length = l.length := by simpa using hlen
        cases b with
        | true =>
          simp only [mixPB, Bool.and_eq_true] at hB
          obtain ⟨⟨hr, hf⟩, hB'⟩ := hB
          obtain ⟨v, hy, hK⟩ := h
          exact first_of h0 (Region.noSelect_spec hsel) (fun c a w => hQ c _ _ a w) l.length listed a w (Region.free_spec h0 hf) (by simpa using hr) hy hC (ih ks l _ _ w hlen' hl' hB' hC hK)
        | false =>
          simp only [mixPB, Bool.and_eq_true, decide_eq_true_eq] at hB
          obtain ⟨hw, h⟩ := h
          refine ⟨fun h1 => (by rw [hB.1] at h1; cases h1), fun i hi => ?_⟩
          rw [hB.1] at hi
          obtain rfl : i = k := by simpa using hi
          unfold wpOp
          simp only [h0, hw, if_true]
          exact .inl (Oper.wp_mono (fun b w' h' => ⟨h'.1, ih ks l _ b w' hlen' hl' hB.2 h'.1 h'.2⟩) h)
/-- Two neighbours change places. -/
def swapAt : Nat → List Oper → List Oper
  | 0, x :: y :: l => y :: x :: l
  | n + 1, x :: l => x :: swapAt n l
  | _, l => l
theorem wp_region_mixP {id : Nat} {a : Act} {w : World} {l : List Oper} (C : World → Prop) (l' : List Oper) (bs : List Bool) (ks : List Nat) (hm : P.follows .mixedOrders = true) (hB : (Region.noSelect l.toArray && (decide (bs.length = l'.length) && (decide (l'.length = l.length) && mixPB .any l.toArray bs ks (Array.replicate l.toArray.size false)))) = true)
    (hl : (ks.map fun k => l.toArray[k]?) = l'.map some)
    (hC : C { w with drawn := w.drawn + 1 }) (h : wpMix P l.toArray (NoPanic Q) C bs l' a { w with drawn := w.drawn + 1 }) : (Code.region id l.toArray true).wp P Q a w := by
  simp only [Bool.and_eq_true, decide_eq_true_eq] at hB
  refine wp_region_noPanic (wp_region_held (S := C) hm ?_)
  have h2 := any_of_mixP hB.1 (fun _ _ _ _ _ h => h) bs ks l' _ a _ hB.2.1 hl hB.2.2.2 hC h
  rw [hB.2.2.1] at h2
  exact h2
theorem wp_region_mixS {id : Nat} {a : Act} {w : World} {l : List Oper} (n : Nat) (C : World → Prop) (bs : List Bool) (ks : List Nat) (hm : P.follows .mixedOrders = true) (hB : (Region.noSelect l.toArray && (decide (bs.length = (swapAt n l).length) && (decide ((swapAt n l).length = l.length) && mixPB .any l.toArray bs ks (Array.replicate l.toArray.size false)))) = true)
    (hl : (ks.map fun k => l.toArray[k]?) = (swapAt n l).map some)
    (hC : C { w with drawn := w.drawn + 1 }) (h : ∀ w', C w' → wpMix P l.toArray (NoPanic Q) C bs (swapAt n l) a w') : (Code.region id l.toArray true).wp P Q a w :=
  wp_region_mixP C (swapAt n l) bs ks hm hB hl hC (h _ hC)
theorem mix_callC {o : Oper} {l : List Oper} {bs : List Bool} {a : Act} {w : World} (f : FuncId) (args : Array Value) (v : Value) (hw : Region.wanted o (yielded ops a.tmps) = true) (ho : ∀ w', (execOp a.eval o).run P w' = .ok (.enter f args) w')
    (hc : ∀ w', C w' → Calls P f args w' fun e w2 => e = .returned v ∧ w' = w2) (k : wpMix P ops Q C bs l (a.put o.dst v) w) : wpMix P ops Q C (true :: bs) (o :: l) a w :=
  ⟨v, by unfold YieldsC; rw [if_pos hw]; exact fun w' h => .inr ⟨f, args, ho w', hc w' h⟩, k⟩
theorem mix_stand_call {o : Oper} {l : List Oper} {bs : List Bool} {a : Act} {w : World} (f : FuncId) (args : Array Value) (v : Value) (hw : Region.wanted o (yielded ops a.tmps) = true) (ho : (execOp a.eval o).run P w = .ok (.enter f args) w)
    (hc : Calls P f args w fun e w2 => e = .returned v ∧ C w2) (k : ∀ w', C w' → wpMix P ops (NoPanic Q) C bs l (a.put o.dst v) w') : wpMix P ops (NoPanic Q) C (false :: bs) (o :: l) a w := by
  refine ⟨hw, ?_⟩
  simp only [Oper.wp, ho, Oper.upon]
  refine Calls.mono hc fun e w2 he => ?_
  obtain ⟨rfl, h2⟩ := he
  exact ⟨h2, k w2 h2⟩
theorem mix_stand {o : Oper} {l : List Oper} {bs : List Bool} {a : Act} {w : World} (w2 : World) (v : Value) (hw : Region.wanted o (yielded ops a.tmps) = true) (ho : (execOp a.eval o).run P w = .ok (.value v) w2) (hc : C w2) (k : wpMix P ops Q C bs l (a.put o.dst v) w2) : wpMix P ops Q C (false :: bs) (o :: l) a w := by
  refine ⟨hw, ?_⟩
  simp only [Oper.wp, ho, Oper.upon]
  exact ⟨hc, k⟩
end
end Go.Proofs.YtnndnjnpkjpkpaaGreatDoor
