/- Lkp and Mro and Mfn and Mrg -/
import Derived.Test.YtnndnjnpkjpkpaaGreatDoorLaidi
import Derived.Test.YtnndnjnpkjpkpaaGreatDoorMxp
import Derived.Deep.MidRow
import Derived.Test.YtnndnjnpkjpkpaaGreatDoorMtp
import Derived.Test.YtnndnjnpkjpkpaaGreatDoorSne
import Derived.Test.YtnndnjnpkjpkpaaGreatDoorNip
import Derived.Test.YtnndnjnpkjpkpaaGreatDoorRst
namespace Go.Proofs.YtnndnjnpkjpkpaaGreatDoor
open Go Go.RowKit Go.Maps
theorem RowS.lays {w : World} {base : Nat} {v : Value} {l : List Bs} (h : RowS w base v l) : ∃ A cap, v = .slice A l.length cap ∧ l.length ≤ cap ∧ HS w A l ∧ (l = [] ∨ ∃ g, A = some ⟨g, 0, none⟩ ∧ base ≤ g ∧ w.there g 0 l.length) := by
  obtain ⟨A, c, e, hc, hs⟩ := RowS.slice h
  refine ⟨A, c, e, hc, Lib.hid hs, ?_⟩
  rcases h.2 with ⟨hv, hn⟩ | ⟨g, cap, cur, hv, hb, hg, hn, hm, hz, ht⟩
  · exact .inl (List.length_eq_zero_iff.1 hn)
  · rw [hv] at e
    injection e with e1 e2 e3
    refine .inr ⟨g, e1.symm, hb, fun j hj => ⟨?_, frozen_of_row _ _ _ _ _ hg⟩⟩
    rw [cell_of_row _ _ _ _ _ _ hg, Nat.zero_add, Array.getElem?_eq_getElem (show j < cur.size by omega)]
    rfl
theorem RowF.lays {w : World} {base : Nat} {v : Value} {fs : List OkF} (h : RowF w base v fs) : ∃ A cap, v = .slice A fs.length cap ∧ fs.length ≤ cap ∧ FactsS w A (fs.map (·.1)) ∧ (fs = [] ∨ ∃ g, A = some ⟨g, 0, none⟩ ∧ base ≤ g ∧ w.there g 0 (fs.length * 18)) := by
  obtain ⟨A, c, e, hc, hs⟩ := RowA.slice (RowF.rowA h)
  rw [List.length_map] at e hc
  refine ⟨A, c, e, hc, hs, ?_⟩
  rcases h.2 with ⟨hv, hn⟩ | ⟨g, cap, cur, hv, hb, hg, hn, hm, hz, ht⟩
  · exact .inl (List.length_eq_zero_iff.1 hn)
  · rw [hv] at e
    injection e with e1 e2 e3
    refine .inr ⟨g, e1.symm, hb, fun j hj => ⟨?_, frozen_of_row _ _ _ _ _ hg⟩⟩
    rw [cell_of_row _ _ _ _ _ _ hg, Nat.zero_add, Array.getElem?_eq_getElem (show j < cur.size by omega)]
    rfl
theorem there_part {w : World} {b n o m : Nat} (h : w.there b 0 n) (hm : o + m ≤ n) : w.there b o m := fun j hj => by
  have := h (o + j) (by omega)
  rwa [Nat.zero_add] at this
theorem there_keep {w w' : World} {b o n : Nat} (h : w.there b o n) (hb : Below w.heap.size w w') : w'.there b o n := fun j hj => by
  obtain ⟨h1, h2⟩ := h j hj
  obtain ⟨v, hv⟩ := Option.isSome_iff_exists.1 h1
  have hlt := lt_of_cell hv
  refine ⟨by rw [hb.cell hlt]; exact h1, by rw [World.frozen?_of_block (hb.block _ hlt)]; exact h2⟩
theorem grown_setCell6 (w : World) (a : Addr) (u : Value) : w.grownBy (w.setCell a u) (some a.block) :=
  ⟨rfl, rfl, rfl, by simp, fun k hk hne => by
    have : k ≠ a.block := fun e => hne (by rw [e])
    simp only [World.setCell]
    rw [Array.getElem?_modify, if_neg (fun e => this e.symm)]⟩
theorem grown_setCells6 (b : Nat) : ∀ (vs : List Value) (o : Nat) (w : World), w.grownBy (w.setCells b o vs) (some b)
  | [], _, _ => ⟨rfl, rfl, rfl, Nat.le_refl _, fun _ _ _ => rfl⟩
  | v :: r, o, w => grown_trans (grown_setCell6 w ⟨b, o, none⟩ v) (grown_setCells6 b r (o + 1) _)
theorem at_fact {fs : List OkF} (hA : Asc (fs.map entF)) {i : Nat} (hi : i < fs.length) : okA ((fs.map (·.1)).getD i zeroA) = true ∧ (idsE (fs.map entF)).getD i [] = keyF ((fs.map (·.1)).getD i zeroA) ∧ getE (fs.map entF) (keyF ((fs.map (·.1)).getD i zeroA)) = some (valF ((fs.map (·.1)).getD i zeroA)) := by
  have e1 : (fs.map (·.1)).getD i zeroA = (fs[i]).1 := by
    rw [List.getD_eq_getElem?_getD, List.getElem?_map, List.getElem?_eq_getElem hi]; rfl
  have e2 : (idsE (fs.map entF)).getD i [] = keyF (fs[i]).1 := by
    unfold idsE
    rw [List.getD_eq_getElem?_getD, List.getElem?_map, List.getElem?_map, List.getElem?_eq_getElem hi]; rfl
  rw [e1, e2]
  refine ⟨(fs[i]).2, rfl, mem_getE hA ?_⟩
  exact List.mem_map_of_mem (f := entF) (List.getElem_mem hi)
theorem ids_asc {es : List Ent} (h : Asc es) : (idsE es).Pairwise (fun a b => Op.bytesLess a b = true) := by
  unfold idsE
  rw [List.pairwise_map]
  exact h
theorem ids_has {es : List Ent} (h : Asc es) (k : Bs) : k ∈ idsE es ↔ hasE es k = true := mem_keys h k
theorem asc_getL {l : List Bs} (h : l.Pairwise (fun a b => Op.bytesLess a b = true)) {i j : Nat} (hij : i < j) (hj : j < l.length) : Op.bytesLess (l.getD i []) (l.getD j []) = true := by
  have h1 := List.pairwise_iff_getElem.1 h i j (by omega) hj hij
  rw [List.getD_eq_getElem?_getD, List.getD_eq_getElem?_getD, List.getElem?_eq_getElem hj, List.getElem?_eq_getElem (show i < l.length by omega)]; exact h1
theorem ls_not {X Y : Bs} (h : Op.bytesLess X Y = true) : Op.bytesLess Y X = false ∧ (Y == X) = false := by
  constructor
  · cases hb : Op.bytesLess Y X with
    | false => rfl
    | true => exact absurd (ls_trans h hb) (by rw [ls_irr]; decide)
  · rw [beq_eq_false_iff_ne]
    rintro rfl
    rw [ls_irr] at h; cases h
theorem mem_take_succ {l : List Bs} {x : Bs} {j : Nat} (hj : j < l.length) : x ∈ l.take (j + 1) ↔ x ∈ l.take j ∨ l.getD j [] = x := by
  rw [List.take_add_one, List.getElem?_eq_getElem hj, List.mem_append, List.getD_eq_getElem?_getD, List.getElem?_eq_getElem hj]
  simp only [Option.toList_some, List.mem_singleton, Option.getD_some]
  exact ⟨fun h => h.imp id Eq.symm, fun h => h.imp id Eq.symm⟩
section
variable {P : Program} {ops : Array Oper} {C : World → Prop} {Q : Exit → Act → World → Prop}
theorem wp_region_mixM {id : Nat} {a : Act} {w : World} {l : List Oper} (C : World → Prop) (bs : List Bool) (hm : P.follows .mixedOrders = true) (hB : (Region.noSelect l.toArray && (decide (bs.length = l.length) && mixB .any l.toArray bs 0 (Array.replicate l.toArray.size false))) = true)
    (hC : C { w with drawn := w.drawn + 1 }) (h : ∀ w', C w' → wpMix P l.toArray (NoPanic Q) C bs l a w') : (Code.region id l.toArray true).wp P Q a w :=
  wp_region_mix C bs hm hB hC (h _ hC)
end
section
variable {ops : Array Oper} {C : World → Prop} {Q : Exit → Act → World → Prop}
theorem mix_load_at {o : Oper} {l : List Oper} {bs : List Bool} {a : Act} {w : World} (hw : Region.wanted o (yielded ops a.tmps) = true) (x : Operand) (ho : o.op = .load 40 x) (b k : Nat) (hx : a.eval x = .pointer (some ⟨b, k, none⟩)) (v : Nat → Int) (t : ByteArray)
    (hv : ∀ w', C w' → ∀ j x, (factC v t)[j]? = some x → w'.cell? ⟨b, k + j, none⟩ = some x) (h : wpMix Tryz.prog ops Q C bs l (a.put o.dst (.agg (factC v t))) w) : wpMix Tryz.prog ops Q C (true :: bs) (o :: l) a w :=
  mix_val _ hw (fun w' hc => by
    unfold execOp
    simp only [ho, hx, Instr.loadAt, Instr.sureAddr, Sem.run_bind, Sem.run_pure, Result.andThen_ok, run_load_at w' b k v t (hv w' hc)]) h
theorem mix_neF {o : Oper} {l : List Oper} {bs : List Bool} {a : Act} {w : World} (hw : Region.wanted o (yielded ops a.tmps) = true) (x y : Operand) (t2 : TypeId) (ho : o.op = .binOp .neq 40 x y t2) (f : Fa) (hx : a.eval x = .agg (factC f.1 f.2)) (hy : a.eval y = .agg (factC f.1 f.2))
    (h : wpMix Tryz.prog ops Q C bs l (a.put o.dst (.bool false)) w) : wpMix Tryz.prog ops Q C (true :: bs) (o :: l) a w :=
  mix_val (.bool false) hw (fun w' _ => by
    have hl := runNe f f w'
    rw [(eqB_val f f).2 rfl] at hl
    generalize factC f.1 f.2 = c1 at *
    have he : (eqGuard .neq 40 x y (.agg c1) (.agg c1)).run Tryz.prog w' = .ok () w' := by
      simp [eqGuard]
    unfold execOp
    simp only [ho, hx, hy, hl, he, Sem.run_bind, Sem.run_pure, Result.andThen_ok, Bool.not_true]) h
end
end Go.Proofs.YtnndnjnpkjpkpaaGreatDoor
namespace Go.Proofs.YtnndnjnpkjpkpaaGreatDoor
open Go Go.RowKit Go.Maps
theorem put_lit (l : List Value) (ds : List Deferred) (d : Nat) (v : Value) : Act.put ⟨l.toArray, ds⟩ (some d) v = ⟨(l.set d v).toArray, ds⟩ := by
  simp only [Act.put, List.setIfInBounds_toArray]
theorem put_no (a : Act) (v : Value) : Act.put a none v = a := rfl
section
variable {ops : Array Oper} {C : World → Prop} {Q : Exit → Act → World → Prop}
theorem mix_load_ps {o : Oper} {l : List Oper} {bs : List Bool} {a : Act} {w : World} (hw : Region.wanted o (yielded ops a.tmps) = true) (x : Operand) (ho : o.op = .load 27 x) (p : Addr) (hx : a.eval x = .pointer (some p)) (q : Option Addr)
    (hv : ∀ w', C w' → w'.cell? p = some (.pointer q)) (k : wpMix Tryz.prog ops Q C bs l (a.put o.dst (.pointer q)) w) : wpMix Tryz.prog ops Q C (true :: bs) (o :: l) a w :=
  mix_val (.pointer q) hw (fun w' hc => by
    have h := hv w' hc
    unfold execOp
    simp only [ho, hx]
    go_simp) k
theorem mix_load_pr {o : Oper} {l : List Oper} {bs : List Bool} {a : Act} {w : World} (hw : Region.wanted o (yielded ops a.tmps) = true) (x : Operand) (ho : o.op = .load 30 x) (p : Addr) (hx : a.eval x = .pointer (some p)) (q : Option Addr)
    (hv : ∀ w', C w' → w'.cell? p = some (.pointer q)) (k : wpMix Tryz.prog ops Q C bs l (a.put o.dst (.pointer q)) w) : wpMix Tryz.prog ops Q C (true :: bs) (o :: l) a w :=
  mix_val (.pointer q) hw (fun w' hc => by
    have h := hv w' hc
    unfold execOp
    simp only [ho, hx]
    go_simp) k
end
/-- Where a slice from its k-th element on begins. -/
def fromA (A : Option Addr) (cap k : Nat) : Option Addr := if cap = k then A else A.map (·.add k)
theorem fromA_strs {w : World} {A : Option Addr} {l : List Bs} {cap : Nat} (h : Strs w A l) (hc : l.length ≤ cap) (k : Nat) : Strs w (fromA A cap k) (l.drop k) := by
  unfold fromA
  split
  · exact .inl (List.drop_of_length_le (by omega))
  · rcases h with rfl | ⟨b, o, rfl, h⟩
    · exact .inl (by simp)
    · refine .inr ⟨b, o + k, by simp [Addr.add], fun i hi => ?_⟩
      rw [List.length_drop] at hi
      have h1 := h (k + i) (by omega)
      rw [List.getD_eq_getElem?_getD, List.getElem?_drop, ← List.getD_eq_getElem?_getD, Nat.add_assoc]
      exact h1
theorem fromA_none {A : Option Addr} {cap k : Nat} (h : fromA A cap k = none) : A = none := by
  unfold fromA at h
  split at h
  · exact h
  · exact Option.map_eq_none_iff.1 h
theorem Lies.nil {A : Option Addr} {cap : Nat} {l : List Bs} (h : Lies A cap l.length) : A = none → cap = 0 ∧ l = [] := fun e => by
  rcases h with ⟨_, h1, h2⟩ | ⟨g, h1⟩
  · exact ⟨h1, List.length_eq_zero_iff.1 h2⟩
  · rw [e] at h1; cases h1
theorem two_appends (w : World) {l1 l2 : List Bs} {A1 A2 : Option Addr} {c1 c2 : Nat} (h1 : Strs w A1 l1) (h2 : Strs w A2 l2) (n1 : A1 = none → c1 = 0 ∧ l1 = []) (n2 : A2 = none → c2 = 0 ∧ l2 = []) (hl : l1.length + l2.length ≤ 100000) :
    ∃ v1 w1 v2 w2, (Builtin.append_ #[24, 24] 24 #[.slice (some ⟨w.heap.size, 0, none⟩) 0 0, .slice A1 l1.length c1]).run Tryz.prog (w.alloc (.cells #[] 9)) = .ok v1 w1 ∧
      (Builtin.append_ #[24, 24] 24 #[v1, .slice A2 l2.length c2]).run Tryz.prog w1 = .ok v2 w2 ∧ RowS w2 w.heap.size v2 (l1 ++ l2) ∧ Below w.heap.size w w1 ∧ Below w.heap.size w w2 := by
  have hal : Below w.heap.size w (w.alloc (.cells #[] 9)) := (Below.refl _ w).alloc (Nat.le_refl _) _
  have hr0 := RowS.empty w w.heap.size (Nat.le_refl _)
  obtain ⟨v1, w1, hr1, ho1, hg1⟩ := append_strs w.heap.size (w.alloc (.cells #[] 9)) hr0 (c := c1) (h1.keep hal) n1 hal.size (by simp; omega) 24
  have b1 : Below w.heap.size w w1 := hal.grown hg1 hal.size (fun j e => hr0.lt j e)
  rw [List.nil_append] at ho1
  obtain ⟨v2, w2, hr2, ho2, hg2⟩ := append_strs w.heap.size w1 ho1 (c := c2) (h2.keep b1) n2 b1.size (by omega) 24
  have b2 : Below w.heap.size w w2 := b1.grown hg2 b1.size (fun j e => ho1.lt j e)
  exact ⟨v1, w1, v2, w2, hr1, hr2, ho2, b1, b2⟩
theorem orient {W9 wr : World} {P Bb Q P' Bb' Q' gs gt : Nat} {s s' : List Ent} (kk : Nat) (hk : kk < 2) (QD : Quad W9 wr P Bb Q P' Bb' Q' s s s' s') (GS : Good s) (GS' : Good s') (H6 : Six W9.heap.size P Bb Q P' Bb' Q')
    (HG : ∀ W, Stat W9 W (Four Bb Q Bb' Q') → (W.cell? ⟨gs, 0, none⟩ = some (.pointer (some ⟨P, 0, none⟩)) ∧ W.cell? ⟨gs, 1, none⟩ = some (.pointer (some ⟨P', 0, none⟩))) ∧ W.cell? ⟨gt, 0, none⟩ = some (.pointer (some ⟨Q, 0, none⟩)) ∧ W.cell? ⟨gt, 1, none⟩ = some (.pointer (some ⟨Q', 0, none⟩))) :
    ∃ (jj P0 B0 Q0 P1 B1 Q1 : Nat) (t0 t1 : List Ent), ((1 : Int) - (kk : Int) = (jj : Int) ∧ jj < 2) ∧ Six W9.heap.size P0 B0 Q0 P1 B1 Q1 ∧ Quad W9 wr P0 B0 Q0 P1 B1 Q1 t0 t0 t1 t1 ∧ Good t0 ∧ Good t1 ∧ Four B0 Q0 B1 Q1 = Four Bb Q Bb' Q' ∧
      (∀ W, Stat W9 W (Four Bb Q Bb' Q') → W.cell? ⟨gs, kk, none⟩ = some (.pointer (some ⟨P0, 0, none⟩)) ∧ W.cell? ⟨gs, jj, none⟩ = some (.pointer (some ⟨P1, 0, none⟩)) ∧ W.cell? ⟨gt, kk, none⟩ = some (.pointer (some ⟨Q0, 0, none⟩)) ∧ W.cell? ⟨gt, jj, none⟩ = some (.pointer (some ⟨Q1, 0, none⟩))) ∧
      (∀ W a b, Quad W9 W P0 B0 Q0 P1 B1 Q1 a a b b → Good a → Good b → ∃ s s', Hid (Quad W9 W P Bb Q P' Bb' Q' s s s' s') ∧ Hid (Good s) ∧ Hid (Good s')) := by
  match kk, hk with
  | 0, _ => exact ⟨1, P, Bb, Q, P', Bb', Q', s, s', ⟨rfl, by omega⟩, H6, QD, GS, GS', rfl, fun W h => ⟨(HG W h).1.1, (HG W h).1.2, (HG W h).2.1, (HG W h).2.2⟩, fun W a b h ha hb => ⟨a, b, Lib.hid h, Lib.hid ha, Lib.hid hb⟩⟩
  | 1, _ => exact ⟨0, P', Bb', Q', P, Bb, Q, s', s, ⟨rfl, by omega⟩, H6.swap, QD.swap, GS', GS, Four.swap, fun W h => ⟨(HG W h).1.2, (HG W h).1.1, (HG W h).2.2, (HG W h).2.1⟩, fun W a b h ha hb => ⟨b, a, Lib.hid h.swap, Lib.hid hb, Lib.hid ha⟩⟩
section
variable {ops : Array Oper} {C : World → Prop} {Q : Exit → Act → World → Prop}
theorem mix_slice_hi {o : Oper} {l : List Oper} {bs : List Bool} {a : Act} {w : World} (hw : Region.wanted o (yielded ops a.tmps) = true) (x h : Operand) (ho : o.op = .slice 24 x none (some h) none) (A : Option Addr) (n cap k : Nat) (hx : a.eval x = .slice A n cap) (hh : a.eval h = .int .i64 (k : Int)) (hk : k ≤ cap)
    (hK : wpMix Tryz.prog ops Q C bs l (a.put o.dst (.slice A k cap)) w) : wpMix Tryz.prog ops Q C (true :: bs) (o :: l) a w :=
  mix_val _ hw (fun w' _ => by
    have k1 : (k : Int) ≤ (cap : Int) := by omega
    have k0 : (0 : Int) ≤ (k : Int) := by omega
    unfold execOp
    simp only [ho, hx, hh, Option.map]
    cases A with
    | none => go_simp
    | some p =>
      obtain ⟨b, i, u⟩ := p
      go_simp) hK
theorem mix_slice_lo {o : Oper} {l : List Oper} {bs : List Bool} {a : Act} {w : World} (hw : Region.wanted o (yielded ops a.tmps) = true) (x h : Operand) (ho : o.op = .slice 24 x (some h) none none) (A : Option Addr) (n cap k : Nat) (hx : a.eval x = .slice A n cap) (hh : a.eval h = .int .i64 (k : Int)) (hk : k ≤ n)
    (hK : wpMix Tryz.prog ops Q C bs l (a.put o.dst (.slice (fromA A cap k) (n - k) (cap - k))) w) : wpMix Tryz.prog ops Q C (true :: bs) (o :: l) a w :=
  mix_val _ hw (fun w' _ => by
    have k1 : (k : Int) ≤ (n : Int) := by omega
    have k0 : (0 : Int) ≤ (k : Int) := by omega
    unfold execOp fromA
    simp only [ho, hx, hh, Option.map]
    go_simp
    cases A <;> rfl) hK
end
theorem eqL_same {l : List El} {fs : List OkF} (h : esR l = fs.map entF) : eqL (fs.map (·.1)) (l.map (·.2)) = true := by
  rw [eqL_iff]
  have h2 := congrArg (List.map (·.2)) h
  unfold esR at h2
  rw [List.map_map, List.map_map] at h2
  rw [List.map_map, List.map_map]
  exact h2.symm
/-! ### The contracts in the form that the walk wants: both sides alike -/
def StrP (W : World) (v : Value) (l : List Bs) : Prop := ∃ A c, v = .slice A l.length c ∧ Strs W A l
def FacP (W : World) (v : Value) (es : List Ent) : Prop := ∃ (A : Option Addr) (c : Nat) (fs : List Fa), v = .slice A fs.length c ∧ FactsS W A fs ∧ fs.map valF = es.map (·.2)
theorem StrP.keep {W W' : World} {v : Value} {l : List Bs} (h : StrP W v l) (hb : Below W.heap.size W W') : StrP W' v l := by
  obtain ⟨A, c, e, hs⟩ := h
  exact ⟨A, c, e, hs.keep hb⟩
theorem FacP.keep {W W' : World} {v : Value} {l : List Ent} (h : FacP W v l) (hb : Below W.heap.size W W') : FacP W' v l := by
  obtain ⟨A, c, fs, e, hs, h2⟩ := h
  exact ⟨A, c, fs, e, hs.keep hb, h2⟩
theorem strP_of {W : World} {base : Nat} {v : Value} {l : List Bs} (h : RowS W base v l) : StrP W v l := by
  obtain ⟨A, c, e, _, hs⟩ := RowS.slice h
  exact ⟨A, c, e, hs⟩
theorem idsZ (p b : Nat) (es : List Ent) (w : World) (hS : SetAt w p b es) (hG : Good es) : Calls Tryz.prog 16 #[.pointer (some ⟨p, 0, none⟩)] w fun e W' => ∃ v, e = .returned v ∧ StrP W' v (idsE es) ∧ Below w.heap.size w W' :=
  (IDs_calls (some ⟨p, 0, none⟩) es w (.inr ⟨p, b, rfl, hS, hG⟩)).mono fun _ _ ⟨v, e, hr, hb⟩ => ⟨v, e, strP_of (l := idsE es) hr, hb⟩
theorem esR_le {l : List El} {es : List Ent} (he : esR l = es) (hG : Good es) : l.length ≤ 100000 := by
  have := hG.2.2
  rw [← he, esR_length] at this
  omega
theorem rIdsZ (q : Nat) (v : Value) (l : List El) (es : List Ent) (w : World) (hR : RSetAt w q v l) (he : esR l = es) (hG : Good es) : Calls Tryz.prog 12 #[.pointer (some ⟨q, 0, none⟩)] w fun e W' => ∃ v, e = .returned v ∧ StrP W' v (idsE es) ∧ Below w.heap.size w W' :=
  (rIDs_calls q v l w hR (esR_le he hG)).mono fun _ _ ⟨v, e, hr, hb⟩ => ⟨v, e, strP_of (by rw [← he]; exact hr), hb⟩
theorem facZ (p b : Nat) (es : List Ent) (w : World) (hS : SetAt w p b es) (hG : Good es) : Calls Tryz.prog 18 #[.pointer (some ⟨p, 0, none⟩)] w fun e W' => ∃ v, e = .returned v ∧ FacP W' v es ∧ Below w.heap.size w W' := by
  obtain ⟨fs, rfl⟩ := facts_list hG.2.1
  refine (Facts_calls (some ⟨p, 0, none⟩) fs w (.inr ⟨p, b, rfl, hS, hG⟩)).mono ?_
  rintro e W' ⟨v, he, hr, hb⟩
  obtain ⟨A, c, rfl, _, hs⟩ := RowA.slice (RowF.rowA hr)
  exact ⟨_, he, ⟨A, c, _, rfl, hs, by rw [List.map_map, List.map_map]; rfl⟩, hb⟩
theorem rFacZ (q : Nat) (v : Value) (l : List El) (es : List Ent) (w : World) (hR : RSetAt w q v l) (he : esR l = es) (hG : Good es) : Calls Tryz.prog 19 #[.pointer (some ⟨q, 0, none⟩)] w fun e W' => ∃ v, e = .returned v ∧ FacP W' v es ∧ Below w.heap.size w W' := by
  refine (rFacts_calls q v l w hR (esR_le he hG)).mono ?_
  rintro e W' ⟨v', he', hr, hb⟩
  obtain ⟨A, c, rfl, _, hs⟩ := RowA.slice hr
  refine ⟨_, he', ⟨A, c, _, rfl, hs, ?_⟩, hb⟩
  rw [← he]
  unfold esR
  rw [List.map_map, List.map_map]
  rfl
theorem missZ (p b : Nat) (es : List Ent) (ids : List Bs) (A : Option Addr) (cap : Nat) (w : World) (hS : SetAt w p b es) (hG : Good es) (hA : Strs w A ids) (hl : ids.length ≤ 20000) (hc : ids.length ≤ cap) (hx : ∀ x ∈ ids, x.length ≤ 281474976710656) :
    Calls Tryz.prog 20 #[.pointer (some ⟨p, 0, none⟩), .slice A ids.length cap] w fun e W' => ∃ v, e = .returned v ∧ StrP W' v (missK es ids) ∧ Below w.heap.size w W' :=
  (Missing_calls (some ⟨p, 0, none⟩) es ids A cap w (.inr ⟨p, b, rfl, hS, hG⟩) hA (by omega) hc hx).mono fun _ _ ⟨v, e, hr, _, hb⟩ => ⟨v, e, strP_of hr, hb⟩
theorem rMissZ (q : Nat) (v : Value) (l : List El) (es : List Ent) (ids : List Bs) (A : Option Addr) (cap : Nat) (w : World) (hR : RSetAt w q v l) (he : esR l = es) (hG : Good es) (hA : Strs w A ids) (hl : ids.length ≤ 20000) :
    Calls Tryz.prog 21 #[.pointer (some ⟨q, 0, none⟩), .slice A ids.length cap] w fun e W' => ∃ v, e = .returned v ∧ StrP W' v (missK es ids) ∧ Below w.heap.size w W' :=
  (rMissing_calls q v l ids A cap w hR (by rw [he]; exact hG.1) (esR_le he hG) hA hl).mono fun _ _ ⟨v, e, hr, hb⟩ => ⟨v, e, strP_of (by rw [← he]; exact hr), hb⟩
theorem sameSZ (l : List Bs) (u v : Value) (w : World) (hu : StrP w u l) (hv : StrP w v l) (hl : l.length ≤ 100000) : Calls Tryz.prog 15 #[u, v] w fun e W' => e = .returned (.bool true) ∧ Below w.heap.size w W' := by
  obtain ⟨A, c, rfl, hA⟩ := hu
  obtain ⟨B, d, rfl, hB⟩ := hv
  have h := same_any l l A B c d w hA hB (by omega)
  rw [decide_eq_true rfl] at h
  exact h
theorem sameFZ (es : List Ent) (u v : Value) (w : World) (hu : FacP w u es) (hv : FacP w v es) (hl : es.length ≤ 100000) : Calls Tryz.prog 17 #[u, v] w fun e W' => e = .returned (.bool true) ∧ Below w.heap.size w W' := by
  obtain ⟨A, c, fs, rfl, hA, h1⟩ := hu
  obtain ⟨B, d, gs, rfl, hB, h2⟩ := hv
  have hn : fs.length = es.length := by have := congrArg List.length h1; rwa [List.length_map, List.length_map] at this
  have h := sameF_any fs gs A B c d w hA hB (by omega)
  rw [(eqL_iff fs gs).2 (h1.trans h2.symm)] at h
  exact h
theorem partZ {W : World} (p b : Nat) (es : List Ent) (ids : List Bs) (A : Option Addr) (cap : Nat) (hS : SetAt W p b es) (hG : Good es) (hA : Strs W A ids) (hl : ids.length ≤ 20000) (hc : ids.length ≤ cap) (hx : ∀ x ∈ ids, x.length ≤ 281474976710656) (is : Bool) (hm : is = decide (missK es ids = [])) :
    Calls Tryz.prog 13 #[.pointer (some ⟨p, 0, none⟩), .slice A ids.length cap] W fun e W' => (∃ q, e = .returned (.tuple #[.pointer q, .bool is]) ∧ (is = true → ∃ p' b', q = some ⟨p', 0, none⟩ ∧ SetAt W' p' b' (partE es ids))) ∧ Below W.heap.size W W' := by
  by_cases h : missK es ids = []
  · rw [hm, decide_eq_true h]
    refine (Part_has p b es ids A cap W hS hG hA (by omega) hc hx h).mono ?_
    rintro e W' ⟨p', b', he, h1, _, _, hb⟩
    exact ⟨⟨_, he, fun _ => ⟨p', b', rfl, h1⟩⟩, hb⟩
  · rw [hm, decide_eq_false h]
    refine (Part_miss p b es ids A cap W hS hG hA (by omega) hc hx h).mono ?_
    rintro e W' ⟨he, hb⟩
    exact ⟨⟨_, he, fun e => by cases e⟩, hb⟩
theorem rPartZ {W : World} (q : Nat) (v : Value) (l : List El) (es : List Ent) (ids : List Bs) (A : Option Addr) (cap : Nat) (hR : RSetAt W q v l) (he : esR l = es) (hG : Good es) (hA : Strs W A ids) (hl : ids.length ≤ 20000) (is : Bool) (hm : is = decide (missK es ids = [])) :
    Calls Tryz.prog 14 #[.pointer (some ⟨q, 0, none⟩), .slice A ids.length cap] W fun e W' => (∃ r, e = .returned (.tuple #[.pointer r, .bool is]) ∧ (is = true → ∃ q' v' l', r = some ⟨q', 0, none⟩ ∧ RSetAt W' q' v' l' ∧ esR l' = partE es ids)) ∧ Below W.heap.size W W' := by
  subst he
  refine (rPart_calls q v l ids A cap W hR hG.1 (esR_le rfl hG) hA hl).mono ?_
  rintro e W' ⟨h | h, hb⟩
  · obtain ⟨h0, q', v1, l1, he, h1, h2, _⟩ := h
    rw [hm, decide_eq_true h0]
    exact ⟨⟨_, he, fun _ => ⟨q', v1, l1, rfl, h1, h2⟩⟩, hb⟩
  · rw [hm, decide_eq_false h.1]
    exact ⟨⟨_, h.2, fun e => by cases e⟩, hb⟩
theorem ids_short {es : List Ent} (hG : Good es) : (idsE es).length ≤ 4000 ∧ ∀ x ∈ idsE es, x.length = 32 := by
  refine ⟨by unfold idsE; rw [List.length_map]; exact hG.2.2, fun x hx => ?_⟩
  obtain ⟨p, hp, rfl⟩ := List.mem_map.1 hx
  exact good_key hG hp
theorem Quad.mono4 {w0 w : World} {P B Q P' B' Q' : Nat} {s t s' t' : List Ent} (h : Quad w0 w P B Q P' B' Q' s t s' t') {D : Nat → Prop} (e : Four B Q B' Q' = D) : Stat w0 w D := e ▸ h.stat
end Go.Proofs.YtnndnjnpkjpkpaaGreatDoor
namespace Go.Proofs.YtnndnjnpkjpkpaaGreatDoor
open Go Go.RowKit
def upd (f : Nat → Value) (d : Nat) (v : Value) : Nat → Value := fun t => if t = d then v else f t
def updO (f : Nat → Value) : Option Nat → Value → Nat → Value
  | some d, v => upd f d v
  | none, _ => f
/-- The operands by such a function. -/
def evF (f : Nat → Value) : Operand → Value
  | .tmp t => f t
  | .const v => v
  | .global g => .pointer (some ⟨g, 0, none⟩)
  | .func g => .func (.func g) #[] #[]
/-- The function tells the frame. -/
def Rep (n : Nat) (a : Act) (f : Nat → Value) : Prop := a.tmps.size = n ∧ ∀ t, a.tmps.getD t undef = f t
theorem Rep.eval {n : Nat} {a : Act} {f : Nat → Value} (h : Rep n a f) : a.eval = evF f := by
  funext x
  cases x with
  | tmp t => exact h.2 t
  | const v => rfl
  | «global» g => rfl
  | func g => rfl
theorem getD_set (xs : Array Value) (d t : Nat) (v : Value) (hd : d < xs.size) : (xs.setIfInBounds d v).getD t undef = if t = d then v else xs.getD t undef := by
  simp only [Array.getD_eq_getD_getElem?, Array.getElem?_setIfInBounds]
  by_cases h : d = t
  · subst h; simp [hd]
  · simp [h, Ne.symm h]
theorem Rep.put {n : Nat} {a : Act} {f : Nat → Value} (h : Rep n a f) {d : Nat} (hd : d < n) (v : Value) : Rep n (a.put (some d) v) (upd f d v) := by
  refine ⟨by simp [Act.put, h.1], fun t => ?_⟩
  show (a.tmps.setIfInBounds d v).getD t undef = _
  rw [getD_set _ _ _ _ (by rw [h.1]; exact hd)]
  unfold upd
  rw [h.2 t]
theorem Rep.know {n : Nat} {a : Act} {f : Nat → Value} (h : Rep n a f) {d : Nat} {v : Value} (hd : f d = v) : Rep n a (upd f d v) := by
  refine ⟨h.1, fun t => ?_⟩
  unfold upd
  rw [h.2 t]
  split
  · rename_i e; rw [e, hd]
  · rfl
theorem Rep.ext {n : Nat} {a b : Act} {f : Nat → Value} (h : Rep n a f) (k : Rep n b f) (hd : a.defers = b.defers) : a = b := by
  obtain ⟨xs, ds⟩ := a
  obtain ⟨ys, es⟩ := b
  obtain rfl : ds = es := hd
  have : xs = ys := by
    apply Array.ext (by rw [show xs.size = n from h.1, show ys.size = n from k.1])
    intro i h1 h2
    have e := (h.2 i).trans (k.2 i).symm
    simp only [Array.getD_eq_getD_getElem?, Array.getElem?_eq_getElem h1, Array.getElem?_eq_getElem h2, Option.getD_some] at e
    exact e
  rw [this]
def putL (a : Act) : List (Nat × Value) → Act
  | [] => a
  | x :: l => putL (a.put (some x.1) x.2) l
def updL (f : Nat → Value) : List (Nat × Value) → Nat → Value
  | [] => f
  | x :: l => updL (upd f x.1 x.2) l
theorem Rep.putL {n : Nat} {a : Act} {f : Nat → Value} (h : Rep n a f) (l : List (Nat × Value)) (hl : l.all (fun x => decide (x.1 < n)) = true) : Rep n (Go.Proofs.YtnndnjnpkjpkpaaGreatDoor.putL a l) (updL f l) := by
  induction l generalizing a f with
  | nil => exact h
  | cons x l ih =>
    simp only [List.all_cons, Bool.and_eq_true, decide_eq_true_eq] at hl
    exact ih (h.put hl.1 x.2) hl.2
theorem putL_defers (l : List (Nat × Value)) : ∀ a : Act, (putL a l).defers = a.defers := by
  induction l with
  | nil => exact fun _ => rfl
  | cons x l ih => exact fun a => ih _
theorem rep_self {a : Act} {n : Nat} (h : a.tmps.size = n) : Rep n a (fun t => a.tmps.getD t undef) := ⟨h, fun _ => rfl⟩
/-- What guards ask. -/
def yF (ops : Array Oper) (f : Nat → Value) (j : Nat) : Option Bool :=
  match (ops[j]?).bind (·.dst) with
  | some d => (match f d with | .bool b => some b | _ => none)
  | none => none
theorem Rep.yields {n : Nat} {a : Act} {f : Nat → Value} (h : Rep n a f) (ops : Array Oper) : yielded ops a.tmps = yF ops f := by
  funext j
  unfold yielded yF
  cases (ops[j]?).bind (·.dst) with
  | none => rfl
  | some d =>
    have e := h.2 d
    simp only [Array.getD_eq_getD_getElem?] at e
    simp only [Option.bind_some]
    cases hx : a.tmps[d]? with
    | none => rw [hx] at e; rw [← e]; rfl
    | some x => rw [hx] at e; rw [← e]; cases x <;> rfl
def fitB (n : Nat) (l : List Oper) : Bool := l.all fun o => match o.dst with | some d => decide (d < n) | none => true
theorem Rep.putO {n : Nat} {a : Act} {f : Nat → Value} (h : Rep n a f) {o : Oper} {l : List Oper} (hl : fitB n (o :: l) = true) (v : Value) : Rep n (a.put o.dst v) (updO f o.dst v) := by
  simp only [fitB, List.all_cons, Bool.and_eq_true] at hl
  cases hd : o.dst with
  | none => exact h
  | some d => rw [hd] at hl; exact h.put (by simpa using hl.1) v
theorem put_defers {a : Act} {o : Option Tmp} {v : Value} : (a.put o v).defers = a.defers := by cases o <;> rfl
/-- An operation that stands alone. -/
def StandsF (P : Program) (r : Sem Next) (w : World) (K : Value → World → Prop) : Prop :=
  (∃ v w2, r.run P w = .ok (.value v) w2 ∧ K v w2) ∨ (∃ w2, r.run P w = .ok .skip w2 ∧ K undef w2) ∨ ∃ g args, r.run P w = .ok (.enter g args) w ∧ Calls P g args w fun e w2 => ∃ v, e = .returned v ∧ K v w2
def wpF (P : Program) (ops : Array Oper) (C : World → Prop) (T : (Nat → Value) → World → Prop) : List Bool → List Oper → (Nat → Value) → World → Prop
  | true :: bs, o :: l, f, w => ∃ v, (if Region.wanted o (yF ops f) = true then ∀ w, C w → RunsTo P (execOp (evF f) o) v w else v = undef) ∧ wpF P ops C T bs l (updO f o.dst v) w
  | false :: bs, o :: l, f, w => Region.wanted o (yF ops f) = true ∧ StandsF P (execOp (evF f) o) w fun v w2 => C w2 ∧ wpF P ops C T bs l (updO f o.dst v) w2
  | _, _, f, w => T f w
section
variable {P : Program} {ops : Array Oper} {C : World → Prop} {T : (Nat → Value) → World → Prop} {Q : Exit → Act → World → Prop}
theorem mix_of_F {n : Nat} (ds : List Deferred) (hT : ∀ a f w, Rep n a f → a.defers = ds → T f w → Q .normal a w) (bs : List Bool) : ∀ (l : List Oper) (a : Act) (f : Nat → Value) (w : World), fitB n l = true → Rep n a f → a.defers = ds → wpF P ops C T bs l f w → wpMix P ops Q C bs l a w := by
  induction bs with
  | nil =>
    intro l a f w _ hr hd h
    cases l <;> exact hT a f w hr hd h
  | cons b bs ih =>
    intro l a f w hl hr hd h
    cases l with
    | nil => cases b <;> exact hT a f w hr hd h
    | cons o l =>
      have hl' : fitB n l = true := by simp only [fitB, List.all_cons, Bool.and_eq_true] at hl; exact hl.2
      have hp := fun v => hr.putO hl v
      have hd' : ∀ v, (a.put o.dst v).defers = ds := fun v => put_defers.trans hd
      cases b with
      | true =>
        obtain ⟨v, hy, hk⟩ := h
        refine ⟨v, ?_, ih l _ _ w hl' (hp v) (hd' v) hk⟩
        unfold YieldsC
        rw [hr.yields, hr.eval]
        exact hy
      | false =>
        obtain ⟨hw, hs⟩ := h
        refine ⟨by rw [hr.yields]; exact hw, ?_⟩
        unfold Oper.wp
        rw [hr.eval]
        rcases hs with ⟨v, w2, e, hc, hk⟩ | ⟨w2, e, hc, hk⟩ | ⟨g, args, e, hc⟩
        · rw [e]; exact ⟨hc, ih l _ _ w2 hl' (hp v) (hd' v) hk⟩
        · rw [e]; exact ⟨hc, ih l _ _ w2 hl' (hp undef) (hd' undef) hk⟩
        · rw [e]
          refine Calls.mono hc ?_
          rintro e2 w2 ⟨v, rfl, hc2, hk⟩
          exact ⟨hc2, ih l _ _ w2 hl' (hp v) (hd' v) hk⟩
/-- A drawn region, its frame told by a function, in the order that exchanges of neighbours make. -/
theorem wp_region_F {id : Nat} {a : Act} {w : World} {l : List Oper} (n : Nat) (f : Nat → Value) (ss : List Nat) (C D : World → Prop) (T : (Nat → Value) → World → Prop) (bs : List Bool) (ks : List Nat) (hm : P.follows .mixedOrders = true)
    (hB : (Region.noSelect l.toArray && (decide (bs.length = (ss.foldl (fun l n => swapAt n l) l).length) && (decide ((ss.foldl (fun l n => swapAt n l) l).length = l.length) && mixPB .any l.toArray bs ks (Array.replicate l.toArray.size false)))) = true)
    (hl : (ks.map fun k => l.toArray[k]?) = (ss.foldl (fun l n => swapAt n l) l).map some) (hfit : fitB n (ss.foldl (fun l n => swapAt n l) l) = true) (hr : Rep n a f)
    (hC : C { w with drawn := w.drawn + 1 }) (hD : D { w with drawn := w.drawn + 1 }) (h : ∀ w', C w' → D w' → wpF P l.toArray C T bs (ss.foldl (fun l n => swapAt n l) l) f w')
    (hT : ∀ a' f' w', Rep n a' f' → a'.defers = a.defers → T f' w' → Q .normal a' w') : (Code.region id l.toArray true).wp P Q a w :=
  wp_region_mixP C (ss.foldl (fun l n => swapAt n l) l) bs ks hm hB hl hC (mix_of_F (Q := NoPanic Q) a.defers (fun a' f' w' h1 h2 h3 => hT a' f' w' h1 h2 h3) bs _ a f _ hfit hr rfl (h _ hC hD))
theorem f_val {o : Oper} {l : List Oper} {bs : List Bool} {f : Nat → Value} {w : World} (v : Value) (hw : Region.wanted o (yF ops f) = true) (hv : ∀ w', C w' → (execOp (evF f) o).run P w' = .ok (.value v) w') (k : wpF P ops C T bs l (updO f o.dst v) w) : wpF P ops C T (true :: bs) (o :: l) f w :=
  ⟨v, by rw [if_pos hw]; exact fun w' hc => .inl (hv w' hc), k⟩
theorem f_off {o : Oper} {l : List Oper} {bs : List Bool} {f : Nat → Value} {w : World} (hw : Region.wanted o (yF ops f) = false) (k : wpF P ops C T bs l (updO f o.dst undef) w) : wpF P ops C T (true :: bs) (o :: l) f w :=
  ⟨undef, by rw [if_neg (by rw [hw]; decide)], k⟩
theorem f_call {o : Oper} {l : List Oper} {bs : List Bool} {f : Nat → Value} {w : World} (g : FuncId) (args : Array Value) (v : Value) (hw : Region.wanted o (yF ops f) = true) (ho : ∀ w', (execOp (evF f) o).run P w' = .ok (.enter g args) w')
    (hc : ∀ w', C w' → Calls P g args w' fun e w2 => e = .returned v ∧ w' = w2) (k : wpF P ops C T bs l (updO f o.dst v) w) : wpF P ops C T (true :: bs) (o :: l) f w :=
  ⟨v, by rw [if_pos hw]; exact fun w' h => .inr ⟨g, args, ho w', hc w' h⟩, k⟩
theorem f_stand {o : Oper} {l : List Oper} {bs : List Bool} {f : Nat → Value} {w : World} (v : Value) (w2 : World) (hw : Region.wanted o (yF ops f) = true) (ho : (execOp (evF f) o).run P w = .ok (.value v) w2) (hc : C w2) (k : wpF P ops C T bs l (updO f o.dst v) w2) : wpF P ops C T (false :: bs) (o :: l) f w :=
  ⟨hw, .inl ⟨v, w2, ho, hc, k⟩⟩
theorem f_skip {o : Oper} {l : List Oper} {bs : List Bool} {f : Nat → Value} {w : World} (w2 : World) (hw : Region.wanted o (yF ops f) = true) (ho : (execOp (evF f) o).run P w = .ok .skip w2) (hc : C w2) (k : wpF P ops C T bs l (updO f o.dst undef) w2) : wpF P ops C T (false :: bs) (o :: l) f w :=
  ⟨hw, .inr (.inl ⟨w2, ho, hc, k⟩)⟩
theorem f_enter {o : Oper} {l : List Oper} {bs : List Bool} {f : Nat → Value} {w : World} (R : Value → World → Prop) (g : FuncId) (args : Array Value) (hw : Region.wanted o (yF ops f) = true) (ho : (execOp (evF f) o).run P w = .ok (.enter g args) w)
    (hc : Calls P g args w fun e w2 => ∃ v, e = .returned v ∧ R v w2 ∧ C w2) (k : ∀ v w', R v w' → C w' → wpF P ops C T bs l (updO f o.dst v) w') : wpF P ops C T (false :: bs) (o :: l) f w :=
  ⟨hw, .inr (.inr ⟨g, args, ho, hc.mono fun _ w2 ⟨v, he, h1, h2⟩ => ⟨v, he, h2, k v w2 h1 h2⟩⟩)⟩
theorem f_done {f : Nat → Value} {w : World} (h : T f w) : wpF P ops C T [] [] f w := h
end
theorem stands_mono {P : Program} {r : Sem Next} {w : World} {K K' : Value → World → Prop} (h : StandsF P r w K) (hk : ∀ v w2, K v w2 → K' v w2) : StandsF P r w K' := by
  rcases h with ⟨v, w2, e, h⟩ | ⟨w2, e, h⟩ | ⟨g, args, e, hc⟩
  · exact .inl ⟨v, w2, e, hk _ _ h⟩
  · exact .inr (.inl ⟨w2, e, hk _ _ h⟩)
  · exact .inr (.inr ⟨g, args, e, hc.mono fun _ w2 ⟨v, he, h⟩ => ⟨v, he, hk _ _ h⟩⟩)
theorem upd_comm (f : Nat → Value) {d e : Nat} (v u : Value) (h : d ≠ e) : upd (upd f d v) e u = upd (upd f e u) d v := by
  funext t
  unfold upd
  by_cases h1 : t = d
  · subst h1; simp [h]
  · simp [h1]
section
variable {P : Program} {C : World → Prop} {T : (Nat → Value) → World → Prop} {Q : Exit → Act → World → Prop}
theorem wp_of_StandsF {n : Nat} {o : Oper} {a : Act} {f : Nat → Value} {w : World} {K : Act → World → Prop} (hr : Rep n a f) (hf : fitB n [o] = true) (h : StandsF P (execOp (evF f) o) w fun v w2 => ∀ b, Rep n b (updO f o.dst v) → b.defers = a.defers → K b w2) : o.wp P a w K Q := by
  have hp := fun v => hr.putO hf v
  unfold Oper.wp
  rw [hr.eval]
  rcases h with ⟨v, w2, e, hk⟩ | ⟨w2, e, hk⟩ | ⟨g, args, e, hc⟩
  · rw [e]; exact hk _ (hp v) put_defers
  · rw [e]; exact hk _ (hp undef) put_defers
  · rw [e]
    refine Calls.mono hc ?_
    rintro e2 w2 ⟨v, rfl, hk⟩
    exact hk _ (hp v) put_defers
/-- A drawn region in which, behind a beginning of quiet operations, two may come up. -/
theorem wp_region_two {id : Nat} {a : Act} {w : World} {l : List Oper} (n : Nat) (f : Nat → Value) (C D : World → Prop) (T : (Nat → Value) → World → Prop) (p0 pA pB : List Oper → List Oper) (bs0 bsA bsB : List Bool) (ks0 ksA ksB : List Nat) (fuel : Nat) (L : Array Bool) (i j : Nat) (oi oj : Oper) (hm : P.follows .mixedOrders = true) (hsel : Region.noSelect l.toArray = true)
    (hB0 : preB .any l.toArray bs0 ks0 (Array.replicate l.toArray.size false) L = true) (hl0 : (ks0.map fun k => l.toArray[k]?) = (p0 l).map some) (hn : (p0 l).length + (fuel + 1) = l.toArray.size) (h2 : Region.ready .any l.toArray L = [i, j]) (hi : l.toArray[i]? = some oi) (hj : l.toArray[j]? = some oj)
    (hA1 : bsA.length = (pA l).length) (hA2 : (pA l).length = fuel) (hA3 : (ksA.map fun k => l.toArray[k]?) = (pA l).map some) (hA4 : mixPB .any l.toArray bsA ksA (L.setIfInBounds i true) = true)
    (hB1 : bsB.length = (pB l).length) (hB2 : (pB l).length = fuel) (hB3 : (ksB.map fun k => l.toArray[k]?) = (pB l).map some) (hB4 : mixPB .any l.toArray bsB ksB (L.setIfInBounds j true) = true)
    (hf0 : fitB n (p0 l) = true) (hfi : fitB n [oi] = true) (hfj : fitB n [oj] = true) (hfA : fitB n (pA l) = true) (hfB : fitB n (pB l) = true) (hr : Rep n a f) (hC : C { w with drawn := w.drawn + 1 }) (hD : D { w with drawn := w.drawn + 1 })
    (h : ∀ w', C w' → D w' → wpF P l.toArray C (fun f' w2 => (Region.wanted oi (yF l.toArray f') = true ∧ StandsF P (execOp (evF f') oi) w2 fun v w3 => C w3 ∧ wpF P l.toArray C T bsA (pA l) (updO f' oi.dst v) w3) ∧
      (Region.wanted oj (yF l.toArray f') = true ∧ StandsF P (execOp (evF f') oj) w2 fun v w3 => C w3 ∧ wpF P l.toArray C T bsB (pB l) (updO f' oj.dst v) w3)) bs0 (p0 l) f w')
    (hT : ∀ a' f' w', Rep n a' f' → a'.defers = a.defers → T f' w' → Q .normal a' w') : (Code.region id l.toArray true).wp P Q a w := by
  refine wp_region_pre C D p0 bs0 ks0 (fuel + 1) L hm hsel hB0 hl0 hn hC hD ?_
  intro w' hC' hD'
  refine mix_of_F a.defers ?_ bs0 (p0 l) a f w' hf0 hr rfl (h w' hC' hD')
  intro a2 f2 w2 hr2 hd2 ⟨⟨wi, si⟩, wj, sj⟩
  refine any_of_two i j h2 hi hj (by rw [hr2.yields]; exact wi) (by rw [hr2.yields]; exact wj) ?_ ?_
  · refine wp_of_StandsF hr2 hfi (stands_mono si ?_)
    rintro v w3 ⟨hC3, hk⟩ b hb hdb
    exact ⟨hC3, any_of_rest pA bsA ksA hsel hA1 hA2 hA3 hA4 hC3 (mix_of_F (Q := NoPanic Q) a.defers (fun a' f' w' h1 h2 h3 => hT a' f' w' h1 h2 h3) bsA _ b _ w3 hfA hb (hdb.trans hd2) hk)⟩
  · refine wp_of_StandsF hr2 hfj (stands_mono sj ?_)
    rintro v w3 ⟨hC3, hk⟩ b hb hdb
    exact ⟨hC3, any_of_rest pB bsB ksB hsel hB1 hB2 hB3 hB4 hC3 (mix_of_F (Q := NoPanic Q) a.defers (fun a' f' w' h1 h2 h3 => hT a' f' w' h1 h2 h3) bsB _ b _ w3 hfB hb (hdb.trans hd2) hk)⟩
end
theorem run_call_fn {P : Program} (ρ : Operand → Value) (o : Oper) (g : FuncId) (args : List Operand) (ts : Array TypeId) (vals : List Value) (w : World) (ho : o.op = .call { callee := .value (.func g), args := args.toArray, argTypes := ts }) (hg : ρ (.func g) = .func (.func g) #[] #[]) (hv : args.map ρ = vals)
    (he : (callFunc g vals.toArray).run P w = .ok (.enter g vals.toArray) w) : (execOp ρ o).run P w = .ok (.enter g vals.toArray) w := by
  unfold execOp
  simp only [ho, resolve, List.map_toArray, hg, hv, Deferred.ofValue, Sem.run_bind, Sem.run_pure, Result.andThen_ok]
  simp [invoke, he]
/-- The statement itself, by its number. -/
def findC (id : Nat) : Code → Option Code
  | .region i ops d => if i = id then some (.region i ops d) else none
  | .seq a b => match findC id a with | some x => some x | none => findC id b
  | .cond _ a b => match findC id a with | some x => some x | none => findC id b
  | .block _ a => findC id a
  | .loop a => findC id a
  | .scope a => findC id a
  | .rangeFunc _ _ a b => match findC id a with | some x => some x | none => findC id b
  | _ => none
end Go.Proofs.YtnndnjnpkjpkpaaGreatDoor
namespace Go.Proofs.YtnndnjnpkjpkpaaGreatDoor
open Go Go.RowKit Go.Maps
noncomputable def cod (id : Nat) : Code := (Tryz.f3.body.bind (findC id)).getD .skip
section
variable {ops : Array Oper} {C : World → Prop} {T : (Nat → Value) → World → Prop}
theorem f_load_ps {o : Oper} {l : List Oper} {bs : List Bool} {f : Nat → Value} {w : World} (hw : Region.wanted o (yF ops f) = true) (x : Operand) (ho : o.op = .load 27 x) (p : Addr) (hx : evF f x = .pointer (some p)) (q : Option Addr)
    (hv : ∀ w', C w' → w'.cell? p = some (.pointer q)) (k : wpF Tryz.prog ops C T bs l (updO f o.dst (.pointer q)) w) : wpF Tryz.prog ops C T (true :: bs) (o :: l) f w :=
  f_val (.pointer q) hw (fun w' hc => by
    have h := hv w' hc
    unfold execOp
    simp only [ho, hx]
    go_simp) k
theorem f_load_pr {o : Oper} {l : List Oper} {bs : List Bool} {f : Nat → Value} {w : World} (hw : Region.wanted o (yF ops f) = true) (x : Operand) (ho : o.op = .load 30 x) (p : Addr) (hx : evF f x = .pointer (some p)) (q : Option Addr)
    (hv : ∀ w', C w' → w'.cell? p = some (.pointer q)) (k : wpF Tryz.prog ops C T bs l (updO f o.dst (.pointer q)) w) : wpF Tryz.prog ops C T (true :: bs) (o :: l) f w :=
  f_val (.pointer q) hw (fun w' hc => by
    have h := hv w' hc
    unfold execOp
    simp only [ho, hx]
    go_simp) k
theorem f_load_str {o : Oper} {l : List Oper} {bs : List Bool} {f : Nat → Value} {w : World} (hw : Region.wanted o (yF ops f) = true) (x : Operand) (ho : o.op = .load 9 x) (p : Addr) (hx : evF f x = .pointer (some p)) (v : Value)
    (hv : ∀ w', C w' → w'.cell? p = some v) (k : wpF Tryz.prog ops C T bs l (updO f o.dst v) w) : wpF Tryz.prog ops C T (true :: bs) (o :: l) f w :=
  f_val v hw (fun w' hc => by
    have h := hv w' hc
    unfold execOp
    simp only [ho, hx]
    go_simp) k
theorem f_load_sl {o : Oper} {l : List Oper} {bs : List Bool} {f : Nat → Value} {w : World} (hw : Region.wanted o (yF ops f) = true) (x : Operand) (ho : o.op = .load 31 x) (p : Addr) (hx : evF f x = .pointer (some p)) (A : Option Addr) (n c : Nat)
    (hv : ∀ w', C w' → w'.cell? p = some (.slice A n c)) (k : wpF Tryz.prog ops C T bs l (updO f o.dst (.slice A n c)) w) : wpF Tryz.prog ops C T (true :: bs) (o :: l) f w :=
  f_val (.slice A n c) hw (fun w' hc => by
    have h := hv w' hc
    unfold execOp
    simp only [ho, hx]
    go_simp) k
theorem f_load_at {o : Oper} {l : List Oper} {bs : List Bool} {f : Nat → Value} {w : World} (hw : Region.wanted o (yF ops f) = true) (x : Operand) (ho : o.op = .load 40 x) (b k : Nat) (hx : evF f x = .pointer (some ⟨b, k, none⟩)) (v : Nat → Int) (t : ByteArray)
    (hv : ∀ w', C w' → ∀ j x, (factC v t)[j]? = some x → w'.cell? ⟨b, k + j, none⟩ = some x) (h : wpF Tryz.prog ops C T bs l (updO f o.dst (.agg (factC v t))) w) : wpF Tryz.prog ops C T (true :: bs) (o :: l) f w :=
  f_val _ hw (fun w' hc => by
    unfold execOp
    simp only [ho, hx, Instr.loadAt, Instr.sureAddr, Sem.run_bind, Sem.run_pure, Result.andThen_ok, run_load_at w' b k v t (hv w' hc)]) h
theorem f_append {o : Oper} {l : List Oper} {bs : List Bool} {f : Nat → Value} {w : World} {s x : Operand} {t : TypeId} (ho : o.op = .call { callee := .builtin .append, args := #[s, x], argTypes := #[t, t] }) {v u : Value} (hs : evF f s = v) (hx : evF f x = u) {v' : Value} {w' : World}
    (hr : (Builtin.append_ #[t, t] o.type #[v, u]).run Tryz.prog w = .ok v' w') (hw : Region.wanted o (yF ops f) = true) (hc : C w') (k : wpF Tryz.prog ops C T bs l (updO f o.dst v') w') : wpF Tryz.prog ops C T (false :: bs) (o :: l) f w :=
  f_stand v' w' hw (by
    unfold execOp
    simp only [ho, resolve, List.map_toArray, List.map_cons, List.map_nil, hs, hx, Sem.run_bind, Sem.run_pure, Result.andThen_ok, invoke, builtin, hr]) hc k
theorem f_slice_hi {o : Oper} {l : List Oper} {bs : List Bool} {f : Nat → Value} {w : World} (hw : Region.wanted o (yF ops f) = true) (x h : Operand) (ho : o.op = .slice 24 x none (some h) none) (A : Option Addr) (n cap k : Nat) (hx : evF f x = .slice A n cap) (hh : evF f h = .int .i64 (k : Int)) (hk : k ≤ cap)
    (hK : wpF Tryz.prog ops C T bs l (updO f o.dst (.slice A k cap)) w) : wpF Tryz.prog ops C T (true :: bs) (o :: l) f w :=
  f_val _ hw (fun w' _ => by
    have k1 : (k : Int) ≤ (cap : Int) := by omega
    have k0 : (0 : Int) ≤ (k : Int) := by omega
    unfold execOp
    simp only [ho, hx, hh, Option.map]
    cases A with
    | none => go_simp
    | some p =>
      obtain ⟨b, i, u⟩ := p
      go_simp) hK
theorem f_slice_lo {o : Oper} {l : List Oper} {bs : List Bool} {f : Nat → Value} {w : World} (hw : Region.wanted o (yF ops f) = true) (x h : Operand) (ho : o.op = .slice 24 x (some h) none none) (A : Option Addr) (n cap k : Nat) (hx : evF f x = .slice A n cap) (hh : evF f h = .int .i64 (k : Int)) (hk : k ≤ n)
    (hK : wpF Tryz.prog ops C T bs l (updO f o.dst (.slice (fromA A cap k) (n - k) (cap - k))) w) : wpF Tryz.prog ops C T (true :: bs) (o :: l) f w :=
  f_val _ hw (fun w' _ => by
    have k1 : (k : Int) ≤ (n : Int) := by omega
    have k0 : (0 : Int) ≤ (k : Int) := by omega
    unfold execOp fromA
    simp only [ho, hx, hh, Option.map]
    go_simp
    cases A <;> rfl) hK
theorem f_len {o : Oper} {l : List Oper} {bs : List Bool} {f : Nat → Value} {w : World} (hw : Region.wanted o (yF ops f) = true) (x : Operand) (t : TypeId) (ho : o.op = .call { callee := .builtin .len, args := #[x], argTypes := #[t] }) (e : TypeId) (ht : Tryz.prog.underlying t = some (.slice e)) (A : Option Addr) (n c : Nat) (hx : evF f x = .slice A n c)
    (k : wpF Tryz.prog ops C T bs l (updO f o.dst (.int .i64 (n : Int))) w) : wpF Tryz.prog ops C T (true :: bs) (o :: l) f w :=
  f_val (.int .i64 (n : Int)) hw (fun w' _ => by
    unfold execOp
    simp only [ho, resolve, List.map_toArray, List.map_cons, List.map_nil, hx, Sem.run_bind, Sem.run_pure, Result.andThen_ok, invoke, builtin]
    simp [Builtin.len_, underlying, ht, goInt]) k
theorem f_neF {o : Oper} {l : List Oper} {bs : List Bool} {f : Nat → Value} {w : World} (hw : Region.wanted o (yF ops f) = true) (x y : Operand) (t2 : TypeId) (ho : o.op = .binOp .neq 40 x y t2) (g : Fa) (hx : evF f x = .agg (factC g.1 g.2)) (hy : evF f y = .agg (factC g.1 g.2))
    (h : wpF Tryz.prog ops C T bs l (updO f o.dst (.bool false)) w) : wpF Tryz.prog ops C T (true :: bs) (o :: l) f w :=
  f_val (.bool false) hw (fun w' _ => by
    have hl := runNe g g w'
    rw [(eqB_val g g).2 rfl] at hl
    generalize factC g.1 g.2 = c1 at *
    have he : (eqGuard .neq 40 x y (.agg c1) (.agg c1)).run Tryz.prog w' = .ok () w' := by
      simp [eqGuard]
    unfold execOp
    simp only [ho, hx, hy, hl, he, Sem.run_bind, Sem.run_pure, Result.andThen_ok, Bool.not_true]) h
theorem f_load_fact {o : Oper} {l : List Oper} {bs : List Bool} {f : Nat → Value} {w : World} (hw : Region.wanted o (yF ops f) = true) (x : Operand) (ho : o.op = .load 40 x) (g : Nat) (hx : evF f x = .pointer (some ⟨g, 0, none⟩)) (v : Nat → Int) (t : ByteArray)
    (hv : ∀ w', C w' → w'.heap[g]? = some (.cells (factC v t) 40 (0, 0))) (k : wpF Tryz.prog ops C T bs l (updO f o.dst (.agg (factC v t))) w) : wpF Tryz.prog ops C T (true :: bs) (o :: l) f w :=
  f_val _ hw (fun w' hc => by
    unfold execOp
    simp only [ho, hx, Instr.loadAt, Instr.sureAddr, Sem.run_bind, Sem.run_pure, Result.andThen_ok, run_loadVar_row w' g 40 40 (factC v t) (0, 0) _ (hv w' hc) Tryz.underlying40 rfl (hiC v t)]) k
end
theorem run_alloc_fact (ρ : Operand → Value) (o : Oper) (w : World) (ho : o.op = .alloc 40) : (execOp ρ o).run Tryz.prog w = .ok (.value (.pointer (some ⟨w.heap.size, 0, none⟩))) (w.alloc (.cells (factC (fun _ => 0) ⟨#[]⟩) 40)) := by
  unfold execOp
  simp only [ho]
  go_simp
theorem run_store_fact (ρ : Operand → Value) (o : Oper) (w : World) (x : Operand) {y : Operand} (ho : o.op = .store 40 x y) (g : Nat) (hx : ρ x = .pointer (some ⟨g, 0, none⟩)) (v : Nat → Int) (t : ByteArray) (hy : ρ y = .agg (factC v t)) {u : Nat → Int} {s : ByteArray} (hg : w.heap[g]? = some (.cells (factC u s) 40 (0, 0))) :
    (execOp ρ o).run Tryz.prog w = .ok .skip (w.setRow g (factC v t)) := by
  have hst : (storeVar 40 ⟨g, 0, none⟩ (.agg (factC v t))).run Tryz.prog w = .ok () (w.setRow g (factC v t)) := run_storeVar_row _ _ _ _ _ _ hg (hiC v t) rfl (factC_one v t)
  unfold execOp
  simp only [ho, hx, hy, Instr.storeAt, Instr.sureAddr, Sem.run_bind, Sem.run_pure, Result.andThen_ok, hst]
theorem rootZ (q : Nat) (v : Value) (l : List El) (es : List Ent) (w : World) (hR : RSetAt w q v l) (he : esR l = es) (hG : Good es) : Calls Tryz.prog 24 #[.pointer (some ⟨q, 0, none⟩)] w fun e W' => e = .returned (.string ⟨(rootF shaF (idsE es)).toArray⟩) ∧ Below w.heap.size w W' := by
  subst he
  exact rRoot_calls q v l w hR (esR_le rfl hG) (fun k hk => by rw [(ids_short hG).2 k hk]; decide)
set_option maxRecDepth 100000 in
set_option maxHeartbeats 4000000 in
theorem reg13 (a : Act) (hs : a.tmps.size = 320) {W9 w : World} {gs gt kk jj P0 B0 Q0 P1 B1 Q1 : Nat} {F4 : Nat → Prop} {bX oX cc i : Nat} {X : List Fa} {t0 t1 : List Ent} {v : Nat → Int} {t : ByteArray} (HG : ∀ W, Stat W9 W F4 → W.cell? ⟨gs, kk, none⟩ = some (.pointer (some ⟨P0, 0, none⟩)) ∧ W.cell? ⟨gs, jj, none⟩ = some (.pointer (some ⟨P1, 0, none⟩)) ∧ W.cell? ⟨gt, kk, none⟩ = some (.pointer (some ⟨Q0, 0, none⟩)) ∧ W.cell? ⟨gt, jj, none⟩ = some (.pointer (some ⟨Q1, 0, none⟩))) (k0 : (0 : Int) ≤ (kk : Int)) (k2 : (kk : Int) < 2) (_j0 : (0 : Int) ≤ (jj : Int)) (_j2 : (jj : Int) < 2) (_q3 : IntKind.i64.wrap (1 - (kk : Int)) = (jj : Int)) (H6 : Six W9.heap.size P0 B0 Q0 P1 B1 Q1) (HF : Four B0 Q0 B1 Q1 = F4) (i0 : (0 : Int) ≤ (i : Int)) (i1 : (i : Int) < (X.length : Int)) (HFX : ∀ W, Stat W9 W F4 → ∀ j x, (factC v t)[j]? = some x → W.cell? ⟨bX, oX + i * 18 + j, none⟩ = some x) (hQ : Quad W9 w P0 B0 Q0 P1 B1 Q1 t0 t0 t1 t1) (G0 : Good t0) (hK : ∀ W, Stat W9 W F4 → Konst W) (h8 : a.tmps.getD 8 undef = (.slice (some ⟨gs, 0, none⟩) 2 2)) (h12 : a.tmps.getD 12 undef = (.int .i64 (kk : Int))) (h0 : a.tmps.getD 0 undef = (.slice (some ⟨bX, oX, none⟩) X.length cc)) (h10 : a.tmps.getD 10 undef = (.int .i64 (i : Int))) (Q : Exit → Act → World → Prop)
    (K : ∀ (u64 u65 u66 u67 u68 u69 u70 u71 u72 u63 u73 u74 u13 u14 : Value) (w' : World), (u13 = .bool (plusB t0 (v, t)) ∧ u14 = .int .i64 (plusN t0 (v, t)) ∧ Quad W9 w' P0 B0 Q0 P1 B1 Q1 (plusE t0 (v, t)) t0 t1 t1) → Q .normal (putL a [(64, u64), (65, u65), (66, u66), (67, u67), (68, u68), (69, u69), (70, u70), (71, u71), (72, u72), (63, u63), (73, u73), (74, u74), (13, u13), (14, u14)]) w') : Code.wp Tryz.prog (cod 13) Q a w := by
  have hr := ((((rep_self hs).know (d := 8) (v := (.slice (some ⟨gs, 0, none⟩) 2 2)) h8).know (d := 12) (v := (.int .i64 (kk : Int))) h12).know (d := 0) (v := (.slice (some ⟨bX, oX, none⟩) X.length cc)) h0).know (d := 10) (v := (.int .i64 (i : Int))) h10
  conv => arg 2; whnf
  refine wp_region_F 320 _ [] (fun w' => Stat W9 w' F4) (fun w' => Quad W9 w' P0 B0 Q0 P1 B1 Q1 t0 t0 t1 t1) (fun f' w' => ∃ u64 u65 u66 u67 u68 u69 u70 u71 u72 u63 u73 u74 u13 u14 : Value, f' = updL (upd (upd (upd (upd (fun t => a.tmps.getD t undef) 8 (.slice (some ⟨gs, 0, none⟩) 2 2)) 12 (.int .i64 (kk : Int))) 0 (.slice (some ⟨bX, oX, none⟩) X.length cc)) 10 (.int .i64 (i : Int))) [(64, u64), (65, u65), (66, u66), (67, u67), (68, u68), (69, u69), (70, u70), (71, u71), (72, u72), (63, u63), (73, u73), (74, u74), (13, u13), (14, u14)] ∧ (u13 = .bool (plusB t0 (v, t)) ∧ u14 = .int .i64 (plusN t0 (v, t)) ∧ Quad W9 w' P0 B0 Q0 P1 B1 Q1 (plusE t0 (v, t)) t0 t1 t1)) [true, true, true, true, true, true, true, true, false, true, true, true, true, true] [0, 1, 2, 3, 4, 5, 6, 7, 8, 9, 10, 11, 12, 13] (by kernel_rfl) (by kernel_rfl) (by kernel_rfl) (by kernel_rfl) hr ((hQ.below (Below.drew (Below.refl _ _))).mono4 HF) (hQ.below (Below.drew (Below.refl _ _))) ?_ ?_
  rotate_left
  · rintro a' f' w' hr' hd ⟨u64, u65, u66, u67, u68, u69, u70, u71, u72, u63, u73, u74, u13, u14, rfl, hres⟩
    obtain rfl : a' = putL a [(64, u64), (65, u65), (66, u66), (67, u67), (68, u68), (69, u69), (70, u70), (71, u71), (72, u72), (63, u63), (73, u73), (74, u74), (13, u13), (14, u14)] := hr'.ext (hr.putL [(64, u64), (65, u65), (66, u66), (67, u67), (68, u68), (69, u69), (70, u70), (71, u71), (72, u72), (63, u63), (73, u73), (74, u74), (13, u13), (14, u14)] (by rfl)) (hd.trans (putL_defers _ _).symm)
    exact K u64 u65 u66 u67 u68 u69 u70 u71 u72 u63 u73 u74 u13 u14 w' hres
  intro w0 hC0 hD0
  clear K hr hs h8 h12 h0 h10
  dsimp only [List.foldl]
  refine f_val (.slice (some ⟨gs, 0, none⟩) 2 2) (by rfl) (fun _ _ => by first | rfl | (simp only [execOp, evF, upd, Nat.reduceEqDiff, reduceIte]; go_simp; done) | (simp only [execOp, evF, upd, Nat.reduceEqDiff, reduceIte]; go_simp; omega)) ?_
  dsimp only [updO]
  refine f_val (.int .i64 (kk : Int)) (by rfl) (fun _ _ => by first | rfl | (simp only [execOp, evF, upd, Nat.reduceEqDiff, reduceIte]; go_simp; done) | (simp only [execOp, evF, upd, Nat.reduceEqDiff, reduceIte]; go_simp; omega)) ?_
  dsimp only [updO]
  refine f_val (.pointer (some ⟨gs, kk, none⟩)) (by rfl) (fun _ _ => by first | rfl | (simp only [execOp, evF, upd, Nat.reduceEqDiff, reduceIte]; go_simp; done) | (simp only [execOp, evF, upd, Nat.reduceEqDiff, reduceIte]; go_simp; omega)) ?_
  dsimp only [updO]
  refine f_load_ps (by rfl) _ rfl ⟨gs, kk, none⟩ rfl (some ⟨P0, 0, none⟩) (fun w' hc => (HG w' hc).1) ?_
  dsimp only [updO]
  refine f_val (.slice (some ⟨bX, oX, none⟩) X.length cc) (by rfl) (fun _ _ => by first | rfl | (simp only [execOp, evF, upd, Nat.reduceEqDiff, reduceIte]; go_simp; done) | (simp only [execOp, evF, upd, Nat.reduceEqDiff, reduceIte]; go_simp; omega)) ?_
  dsimp only [updO]
  refine f_val (.int .i64 (i : Int)) (by rfl) (fun _ _ => by first | rfl | (simp only [execOp, evF, upd, Nat.reduceEqDiff, reduceIte]; go_simp; done) | (simp only [execOp, evF, upd, Nat.reduceEqDiff, reduceIte]; go_simp; omega)) ?_
  dsimp only [updO]
  refine f_val (.pointer (some ⟨bX, oX + i * 18, none⟩)) (by rfl) (fun _ _ => by first | rfl | (simp only [execOp, evF, upd, Nat.reduceEqDiff, reduceIte]; go_simp; done) | (simp only [execOp, evF, upd, Nat.reduceEqDiff, reduceIte]; go_simp; omega)) ?_
  dsimp only [updO]
  refine f_load_at (by rfl) _ rfl bX (oX + i * 18) rfl v t (fun w' hc => HFX w' hc) ?_
  dsimp only [updO]
  refine f_enter (fun vv w' => vv = .tuple #[.bool (plusB t0 (v, t)), .int .i64 (plusN t0 (v, t))] ∧ Quad W9 w' P0 B0 Q0 P1 B1 Q1 (plusE t0 (v, t)) t0 t1 t1) 8 #[.pointer (some ⟨P0, 0, none⟩), .agg (factC v t)] (by rfl) (run_call_fn _ _ _ _ _ _ _ rfl rfl rfl (enters_of Tryz.func8 (by kernel_rfl) rfl _ _)) ((quad_Add hD0 H6 (hK _ hC0) G0 (v, t)).mono (by rintro e W' ⟨rfl, hq⟩; exact ⟨_, rfl, ⟨rfl, hq⟩, hq.mono4 HF⟩)) ?_
  rintro _ w1 ⟨rfl, hq⟩ hst
  dsimp only [updO]
  refine f_val (.tuple #[.bool (plusB t0 (v, t)), .int .i64 (plusN t0 (v, t))]) (by rfl) (fun _ _ => by first | rfl | (simp only [execOp, evF, upd, Nat.reduceEqDiff, reduceIte]; go_simp; done) | (simp only [execOp, evF, upd, Nat.reduceEqDiff, reduceIte]; go_simp; omega)) ?_
  dsimp only [updO]
  refine f_val (.bool (plusB t0 (v, t))) (by rfl) (fun _ _ => by first | rfl | (simp only [execOp, evF, upd, Nat.reduceEqDiff, reduceIte]; go_simp; done) | (simp only [execOp, evF, upd, Nat.reduceEqDiff, reduceIte]; go_simp; omega)) ?_
  dsimp only [updO]
  refine f_val (.int .i64 (plusN t0 (v, t))) (by rfl) (fun _ _ => by first | rfl | (simp only [execOp, evF, upd, Nat.reduceEqDiff, reduceIte]; go_simp; done) | (simp only [execOp, evF, upd, Nat.reduceEqDiff, reduceIte]; go_simp; omega)) ?_
  dsimp only [updO]
  refine f_val (.bool (plusB t0 (v, t))) (by rfl) (fun _ _ => by first | rfl | (simp only [execOp, evF, upd, Nat.reduceEqDiff, reduceIte]; go_simp; done) | (simp only [execOp, evF, upd, Nat.reduceEqDiff, reduceIte]; go_simp; omega)) ?_
  dsimp only [updO]
  refine f_val (.int .i64 (plusN t0 (v, t))) (by rfl) (fun _ _ => by first | rfl | (simp only [execOp, evF, upd, Nat.reduceEqDiff, reduceIte]; go_simp; done) | (simp only [execOp, evF, upd, Nat.reduceEqDiff, reduceIte]; go_simp; omega)) ?_
  dsimp only [updO]
  refine f_done ?_
  exact ⟨_, _, _, _, _, _, _, _, _, _, _, _, _, _, rfl, rfl, rfl, hq⟩
set_option maxRecDepth 100000 in
set_option maxHeartbeats 4000000 in
theorem reg14 (a : Act) (hs : a.tmps.size = 320) {W9 w : World} {gs gt kk jj P0 B0 Q0 P1 B1 Q1 : Nat} {F4 : Nat → Prop} {bX oX cc i : Nat} {X : List Fa} {t0 t1 : List Ent} {v : Nat → Int} {t : ByteArray} (HG : ∀ W, Stat W9 W F4 → W.cell? ⟨gs, kk, none⟩ = some (.pointer (some ⟨P0, 0, none⟩)) ∧ W.cell? ⟨gs, jj, none⟩ = some (.pointer (some ⟨P1, 0, none⟩)) ∧ W.cell? ⟨gt, kk, none⟩ = some (.pointer (some ⟨Q0, 0, none⟩)) ∧ W.cell? ⟨gt, jj, none⟩ = some (.pointer (some ⟨Q1, 0, none⟩))) (k0 : (0 : Int) ≤ (kk : Int)) (k2 : (kk : Int) < 2) (_j0 : (0 : Int) ≤ (jj : Int)) (_j2 : (jj : Int) < 2) (_q3 : IntKind.i64.wrap (1 - (kk : Int)) = (jj : Int)) (H6 : Six W9.heap.size P0 B0 Q0 P1 B1 Q1) (HF : Four B0 Q0 B1 Q1 = F4) (i0 : (0 : Int) ≤ (i : Int)) (i1 : (i : Int) < (X.length : Int)) (HFX : ∀ W, Stat W9 W F4 → ∀ j x, (factC v t)[j]? = some x → W.cell? ⟨bX, oX + i * 18 + j, none⟩ = some x) (hQ : Quad W9 w P0 B0 Q0 P1 B1 Q1 (plusE t0 (v, t)) t0 t1 t1) (G0 : Good t0) (h9 : a.tmps.getD 9 undef = (.slice (some ⟨gt, 0, none⟩) 2 2)) (h12 : a.tmps.getD 12 undef = (.int .i64 (kk : Int))) (h0 : a.tmps.getD 0 undef = (.slice (some ⟨bX, oX, none⟩) X.length cc)) (h10 : a.tmps.getD 10 undef = (.int .i64 (i : Int))) (Q : Exit → Act → World → Prop)
    (K : ∀ (u76 u77 u78 u79 u80 u81 u82 u83 u84 u75 u85 u86 u15 u16 : Value) (w' : World), (u15 = .bool (plusB t0 (v, t)) ∧ u16 = .int .i64 (plusN t0 (v, t)) ∧ Quad W9 w' P0 B0 Q0 P1 B1 Q1 (plusE t0 (v, t)) (plusE t0 (v, t)) t1 t1) → Q .normal (putL a [(76, u76), (77, u77), (78, u78), (79, u79), (80, u80), (81, u81), (82, u82), (83, u83), (84, u84), (75, u75), (85, u85), (86, u86), (15, u15), (16, u16)]) w') : Code.wp Tryz.prog (cod 14) Q a w := by
  have hr := ((((rep_self hs).know (d := 9) (v := (.slice (some ⟨gt, 0, none⟩) 2 2)) h9).know (d := 12) (v := (.int .i64 (kk : Int))) h12).know (d := 0) (v := (.slice (some ⟨bX, oX, none⟩) X.length cc)) h0).know (d := 10) (v := (.int .i64 (i : Int))) h10
  conv => arg 2; whnf
  refine wp_region_F 320 _ [] (fun w' => Stat W9 w' F4) (fun w' => Quad W9 w' P0 B0 Q0 P1 B1 Q1 (plusE t0 (v, t)) t0 t1 t1) (fun f' w' => ∃ u76 u77 u78 u79 u80 u81 u82 u83 u84 u75 u85 u86 u15 u16 : Value, f' = updL (upd (upd (upd (upd (fun t => a.tmps.getD t undef) 9 (.slice (some ⟨gt, 0, none⟩) 2 2)) 12 (.int .i64 (kk : Int))) 0 (.slice (some ⟨bX, oX, none⟩) X.length cc)) 10 (.int .i64 (i : Int))) [(76, u76), (77, u77), (78, u78), (79, u79), (80, u80), (81, u81), (82, u82), (83, u83), (84, u84), (75, u75), (85, u85), (86, u86), (15, u15), (16, u16)] ∧ (u15 = .bool (plusB t0 (v, t)) ∧ u16 = .int .i64 (plusN t0 (v, t)) ∧ Quad W9 w' P0 B0 Q0 P1 B1 Q1 (plusE t0 (v, t)) (plusE t0 (v, t)) t1 t1)) [true, true, true, true, true, true, true, true, false, true, true, true, true, true] [0, 1, 2, 3, 4, 5, 6, 7, 8, 9, 10, 11, 12, 13] (by kernel_rfl) (by kernel_rfl) (by kernel_rfl) (by kernel_rfl) hr ((hQ.below (Below.drew (Below.refl _ _))).mono4 HF) (hQ.below (Below.drew (Below.refl _ _))) ?_ ?_
  rotate_left
  · rintro a' f' w' hr' hd ⟨u76, u77, u78, u79, u80, u81, u82, u83, u84, u75, u85, u86, u15, u16, rfl, hres⟩
    obtain rfl : a' = putL a [(76, u76), (77, u77), (78, u78), (79, u79), (80, u80), (81, u81), (82, u82), (83, u83), (84, u84), (75, u75), (85, u85), (86, u86), (15, u15), (16, u16)] := hr'.ext (hr.putL [(76, u76), (77, u77), (78, u78), (79, u79), (80, u80), (81, u81), (82, u82), (83, u83), (84, u84), (75, u75), (85, u85), (86, u86), (15, u15), (16, u16)] (by rfl)) (hd.trans (putL_defers _ _).symm)
    exact K u76 u77 u78 u79 u80 u81 u82 u83 u84 u75 u85 u86 u15 u16 w' hres
  intro w0 hC0 hD0
  clear K hr hs h9 h12 h0 h10
  dsimp only [List.foldl]
  refine f_val (.slice (some ⟨gt, 0, none⟩) 2 2) (by rfl) (fun _ _ => by first | rfl | (simp only [execOp, evF, upd, Nat.reduceEqDiff, reduceIte]; go_simp; done) | (simp only [execOp, evF, upd, Nat.reduceEqDiff, reduceIte]; go_simp; omega)) ?_
  dsimp only [updO]
  refine f_val (.int .i64 (kk : Int)) (by rfl) (fun _ _ => by first | rfl | (simp only [execOp, evF, upd, Nat.reduceEqDiff, reduceIte]; go_simp; done) | (simp only [execOp, evF, upd, Nat.reduceEqDiff, reduceIte]; go_simp; omega)) ?_
  dsimp only [updO]
  refine f_val (.pointer (some ⟨gt, kk, none⟩)) (by rfl) (fun _ _ => by first | rfl | (simp only [execOp, evF, upd, Nat.reduceEqDiff, reduceIte]; go_simp; done) | (simp only [execOp, evF, upd, Nat.reduceEqDiff, reduceIte]; go_simp; omega)) ?_
  dsimp only [updO]
  refine f_load_pr (by rfl) _ rfl ⟨gt, kk, none⟩ rfl (some ⟨Q0, 0, none⟩) (fun w' hc => (HG w' hc).2.2.1) ?_
  dsimp only [updO]
  refine f_val (.slice (some ⟨bX, oX, none⟩) X.length cc) (by rfl) (fun _ _ => by first | rfl | (simp only [execOp, evF, upd, Nat.reduceEqDiff, reduceIte]; go_simp; done) | (simp only [execOp, evF, upd, Nat.reduceEqDiff, reduceIte]; go_simp; omega)) ?_
  dsimp only [updO]
  refine f_val (.int .i64 (i : Int)) (by rfl) (fun _ _ => by first | rfl | (simp only [execOp, evF, upd, Nat.reduceEqDiff, reduceIte]; go_simp; done) | (simp only [execOp, evF, upd, Nat.reduceEqDiff, reduceIte]; go_simp; omega)) ?_
  dsimp only [updO]
  refine f_val (.pointer (some ⟨bX, oX + i * 18, none⟩)) (by rfl) (fun _ _ => by first | rfl | (simp only [execOp, evF, upd, Nat.reduceEqDiff, reduceIte]; go_simp; done) | (simp only [execOp, evF, upd, Nat.reduceEqDiff, reduceIte]; go_simp; omega)) ?_
  dsimp only [updO]
  refine f_load_at (by rfl) _ rfl bX (oX + i * 18) rfl v t (fun w' hc => HFX w' hc) ?_
  dsimp only [updO]
  refine f_enter (fun vv w' => vv = .tuple #[.bool (plusB t0 (v, t)), .int .i64 (plusN t0 (v, t))] ∧ Quad W9 w' P0 B0 Q0 P1 B1 Q1 (plusE t0 (v, t)) (plusE t0 (v, t)) t1 t1) 9 #[.pointer (some ⟨Q0, 0, none⟩), .agg (factC v t)] (by rfl) (run_call_fn _ _ _ _ _ _ _ rfl rfl rfl (enters_of Tryz.func9 (by kernel_rfl) rfl _ _)) ((quad_rAdd hD0 H6 G0.1 (by have := G0.2.2; omega) (v, t)).mono (by rintro e W' ⟨rfl, hq⟩; exact ⟨_, rfl, ⟨rfl, hq⟩, hq.mono4 HF⟩)) ?_
  rintro _ w1 ⟨rfl, hq⟩ hst
  dsimp only [updO]
  refine f_val (.tuple #[.bool (plusB t0 (v, t)), .int .i64 (plusN t0 (v, t))]) (by rfl) (fun _ _ => by first | rfl | (simp only [execOp, evF, upd, Nat.reduceEqDiff, reduceIte]; go_simp; done) | (simp only [execOp, evF, upd, Nat.reduceEqDiff, reduceIte]; go_simp; omega)) ?_
  dsimp only [updO]
  refine f_val (.bool (plusB t0 (v, t))) (by rfl) (fun _ _ => by first | rfl | (simp only [execOp, evF, upd, Nat.reduceEqDiff, reduceIte]; go_simp; done) | (simp only [execOp, evF, upd, Nat.reduceEqDiff, reduceIte]; go_simp; omega)) ?_
  dsimp only [updO]
  refine f_val (.int .i64 (plusN t0 (v, t))) (by rfl) (fun _ _ => by first | rfl | (simp only [execOp, evF, upd, Nat.reduceEqDiff, reduceIte]; go_simp; done) | (simp only [execOp, evF, upd, Nat.reduceEqDiff, reduceIte]; go_simp; omega)) ?_
  dsimp only [updO]
  refine f_val (.bool (plusB t0 (v, t))) (by rfl) (fun _ _ => by first | rfl | (simp only [execOp, evF, upd, Nat.reduceEqDiff, reduceIte]; go_simp; done) | (simp only [execOp, evF, upd, Nat.reduceEqDiff, reduceIte]; go_simp; omega)) ?_
  dsimp only [updO]
  refine f_val (.int .i64 (plusN t0 (v, t))) (by rfl) (fun _ _ => by first | rfl | (simp only [execOp, evF, upd, Nat.reduceEqDiff, reduceIte]; go_simp; done) | (simp only [execOp, evF, upd, Nat.reduceEqDiff, reduceIte]; go_simp; omega)) ?_
  dsimp only [updO]
  refine f_done ?_
  exact ⟨_, _, _, _, _, _, _, _, _, _, _, _, _, _, rfl, rfl, rfl, hq⟩
set_option maxRecDepth 100000 in
set_option maxHeartbeats 4000000 in
theorem reg19 (a : Act) (hs : a.tmps.size = 320) {W9 w : World} {gs gt kk jj P0 B0 Q0 P1 B1 Q1 : Nat} {F4 : Nat → Prop} {a0 t1 : List Ent} (HG : ∀ W, Stat W9 W F4 → W.cell? ⟨gs, kk, none⟩ = some (.pointer (some ⟨P0, 0, none⟩)) ∧ W.cell? ⟨gs, jj, none⟩ = some (.pointer (some ⟨P1, 0, none⟩)) ∧ W.cell? ⟨gt, kk, none⟩ = some (.pointer (some ⟨Q0, 0, none⟩)) ∧ W.cell? ⟨gt, jj, none⟩ = some (.pointer (some ⟨Q1, 0, none⟩))) (k0 : (0 : Int) ≤ (kk : Int)) (k2 : (kk : Int) < 2) (j0 : (0 : Int) ≤ (jj : Int)) (j2 : (jj : Int) < 2) (q3 : IntKind.i64.wrap (1 - (kk : Int)) = (jj : Int)) (H6 : Six W9.heap.size P0 B0 Q0 P1 B1 Q1) (HF : Four B0 Q0 B1 Q1 = F4) (hQ : Quad W9 w P0 B0 Q0 P1 B1 Q1 a0 a0 t1 t1) (G0 : Good a0) (G1 : Good t1) (h8 : a.tmps.getD 8 undef = (.slice (some ⟨gs, 0, none⟩) 2 2)) (h9 : a.tmps.getD 9 undef = (.slice (some ⟨gt, 0, none⟩) 2 2)) (h12 : a.tmps.getD 12 undef = (.int .i64 (kk : Int))) (Q : Exit → Act → World → Prop)
    (K : ∀ (u100 u101 u102 u103 u104 u105 u106 u107 u108 u110 u111 u112 u113 u114 u115 u116 u117 u118 u109 u119 u120 : Value) (w' : World), (u120 = .bool false ∧ Quad W9 w' P0 B0 Q0 P1 B1 Q1 (uniS a0 t1) (uniS a0 t1) t1 t1) → Q .normal (putL a [(100, u100), (101, u101), (102, u102), (103, u103), (104, u104), (105, u105), (106, u106), (107, u107), (108, u108), (110, u110), (111, u111), (112, u112), (113, u113), (114, u114), (115, u115), (116, u116), (117, u117), (118, u118), (109, u109), (119, u119), (120, u120)]) w') : Code.wp Tryz.prog (cod 19) Q a w := by
  have hr := (((rep_self hs).know (d := 8) (v := (.slice (some ⟨gs, 0, none⟩) 2 2)) h8).know (d := 9) (v := (.slice (some ⟨gt, 0, none⟩) 2 2)) h9).know (d := 12) (v := (.int .i64 (kk : Int))) h12
  conv => arg 2; whnf
  refine wp_region_F 320 _ [9, 10, 11, 12, 13, 14, 15, 16, 17] (fun w' => Stat W9 w' F4) (fun w' => Quad W9 w' P0 B0 Q0 P1 B1 Q1 a0 a0 t1 t1) (fun f' w' => ∃ u100 u101 u102 u103 u104 u105 u106 u107 u108 u110 u111 u112 u113 u114 u115 u116 u117 u118 u109 u119 u120 : Value, f' = updL (upd (upd (upd (fun t => a.tmps.getD t undef) 8 (.slice (some ⟨gs, 0, none⟩) 2 2)) 9 (.slice (some ⟨gt, 0, none⟩) 2 2)) 12 (.int .i64 (kk : Int))) [(100, u100), (101, u101), (102, u102), (103, u103), (104, u104), (105, u105), (106, u106), (107, u107), (108, u108), (110, u110), (111, u111), (112, u112), (113, u113), (114, u114), (115, u115), (116, u116), (117, u117), (118, u118), (109, u109), (119, u119), (120, u120)] ∧ (u120 = .bool false ∧ Quad W9 w' P0 B0 Q0 P1 B1 Q1 (uniS a0 t1) (uniS a0 t1) t1 t1)) [true, true, true, true, true, true, true, true, true, true, true, true, true, true, true, true, true, true, false, false, true] [0, 1, 2, 3, 4, 5, 6, 7, 8, 10, 11, 12, 13, 14, 15, 16, 17, 18, 9, 19, 20] (by kernel_rfl) (by kernel_rfl) (by kernel_rfl) (by kernel_rfl) hr ((hQ.below (Below.drew (Below.refl _ _))).mono4 HF) (hQ.below (Below.drew (Below.refl _ _))) ?_ ?_
  rotate_left
  · rintro a' f' w' hr' hd ⟨u100, u101, u102, u103, u104, u105, u106, u107, u108, u110, u111, u112, u113, u114, u115, u116, u117, u118, u109, u119, u120, rfl, hres⟩
    obtain rfl : a' = putL a [(100, u100), (101, u101), (102, u102), (103, u103), (104, u104), (105, u105), (106, u106), (107, u107), (108, u108), (110, u110), (111, u111), (112, u112), (113, u113), (114, u114), (115, u115), (116, u116), (117, u117), (118, u118), (109, u109), (119, u119), (120, u120)] := hr'.ext (hr.putL [(100, u100), (101, u101), (102, u102), (103, u103), (104, u104), (105, u105), (106, u106), (107, u107), (108, u108), (110, u110), (111, u111), (112, u112), (113, u113), (114, u114), (115, u115), (116, u116), (117, u117), (118, u118), (109, u109), (119, u119), (120, u120)] (by rfl)) (hd.trans (putL_defers _ _).symm)
    exact K u100 u101 u102 u103 u104 u105 u106 u107 u108 u110 u111 u112 u113 u114 u115 u116 u117 u118 u109 u119 u120 w' hres
  intro w0 hC0 hD0
  clear K hr hs h8 h9 h12
  dsimp only [List.foldl, swapAt]
  refine f_val (.slice (some ⟨gs, 0, none⟩) 2 2) (by rfl) (fun _ _ => by first | rfl | (simp only [execOp, evF, upd, Nat.reduceEqDiff, reduceIte]; go_simp; done) | (simp only [execOp, evF, upd, Nat.reduceEqDiff, reduceIte]; go_simp; omega)) ?_
  dsimp only [updO]
  refine f_val (.int .i64 (kk : Int)) (by rfl) (fun _ _ => by first | rfl | (simp only [execOp, evF, upd, Nat.reduceEqDiff, reduceIte]; go_simp; done) | (simp only [execOp, evF, upd, Nat.reduceEqDiff, reduceIte]; go_simp; omega)) ?_
  dsimp only [updO]
  refine f_val (.pointer (some ⟨gs, kk, none⟩)) (by rfl) (fun _ _ => by first | rfl | (simp only [execOp, evF, upd, Nat.reduceEqDiff, reduceIte]; go_simp; done) | (simp only [execOp, evF, upd, Nat.reduceEqDiff, reduceIte]; go_simp; omega)) ?_
  dsimp only [updO]
  refine f_load_ps (by rfl) _ rfl ⟨gs, kk, none⟩ rfl (some ⟨P0, 0, none⟩) (fun w' hc => (HG w' hc).1) ?_
  dsimp only [updO]
  refine f_val (.slice (some ⟨gs, 0, none⟩) 2 2) (by rfl) (fun _ _ => by first | rfl | (simp only [execOp, evF, upd, Nat.reduceEqDiff, reduceIte]; go_simp; done) | (simp only [execOp, evF, upd, Nat.reduceEqDiff, reduceIte]; go_simp; omega)) ?_
  dsimp only [updO]
  refine f_val (.int .i64 (kk : Int)) (by rfl) (fun _ _ => by first | rfl | (simp only [execOp, evF, upd, Nat.reduceEqDiff, reduceIte]; go_simp; done) | (simp only [execOp, evF, upd, Nat.reduceEqDiff, reduceIte]; go_simp; omega)) ?_
  dsimp only [updO]
  refine f_val (.int .i64 (jj : Int)) (by rfl) (fun _ _ => by first | rfl | (simp only [execOp, evF, upd, Nat.reduceEqDiff, reduceIte]; go_simp; done) | (simp only [execOp, evF, upd, Nat.reduceEqDiff, reduceIte]; go_simp; omega)) ?_
  dsimp only [updO]
  refine f_val (.pointer (some ⟨gs, jj, none⟩)) (by rfl) (fun _ _ => by first | rfl | (simp only [execOp, evF, upd, Nat.reduceEqDiff, reduceIte]; go_simp; done) | (simp only [execOp, evF, upd, Nat.reduceEqDiff, reduceIte]; go_simp; omega)) ?_
  dsimp only [updO]
  refine f_load_ps (by rfl) _ rfl ⟨gs, jj, none⟩ rfl (some ⟨P1, 0, none⟩) (fun w' hc => (HG w' hc).2.1) ?_
  dsimp only [updO]
  refine f_val (.slice (some ⟨gt, 0, none⟩) 2 2) (by rfl) (fun _ _ => by first | rfl | (simp only [execOp, evF, upd, Nat.reduceEqDiff, reduceIte]; go_simp; done) | (simp only [execOp, evF, upd, Nat.reduceEqDiff, reduceIte]; go_simp; omega)) ?_
  dsimp only [updO]
  refine f_val (.int .i64 (kk : Int)) (by rfl) (fun _ _ => by first | rfl | (simp only [execOp, evF, upd, Nat.reduceEqDiff, reduceIte]; go_simp; done) | (simp only [execOp, evF, upd, Nat.reduceEqDiff, reduceIte]; go_simp; omega)) ?_
  dsimp only [updO]
  refine f_val (.pointer (some ⟨gt, kk, none⟩)) (by rfl) (fun _ _ => by first | rfl | (simp only [execOp, evF, upd, Nat.reduceEqDiff, reduceIte]; go_simp; done) | (simp only [execOp, evF, upd, Nat.reduceEqDiff, reduceIte]; go_simp; omega)) ?_
  dsimp only [updO]
  refine f_load_pr (by rfl) _ rfl ⟨gt, kk, none⟩ rfl (some ⟨Q0, 0, none⟩) (fun w' hc => (HG w' hc).2.2.1) ?_
  dsimp only [updO]
  refine f_val (.slice (some ⟨gt, 0, none⟩) 2 2) (by rfl) (fun _ _ => by first | rfl | (simp only [execOp, evF, upd, Nat.reduceEqDiff, reduceIte]; go_simp; done) | (simp only [execOp, evF, upd, Nat.reduceEqDiff, reduceIte]; go_simp; omega)) ?_
  dsimp only [updO]
  refine f_val (.int .i64 (kk : Int)) (by rfl) (fun _ _ => by first | rfl | (simp only [execOp, evF, upd, Nat.reduceEqDiff, reduceIte]; go_simp; done) | (simp only [execOp, evF, upd, Nat.reduceEqDiff, reduceIte]; go_simp; omega)) ?_
  dsimp only [updO]
  refine f_val (.int .i64 (jj : Int)) (by rfl) (fun _ _ => by first | rfl | (simp only [execOp, evF, upd, Nat.reduceEqDiff, reduceIte]; go_simp; done) | (simp only [execOp, evF, upd, Nat.reduceEqDiff, reduceIte]; go_simp; omega)) ?_
  dsimp only [updO]
  refine f_val (.pointer (some ⟨gt, jj, none⟩)) (by rfl) (fun _ _ => by first | rfl | (simp only [execOp, evF, upd, Nat.reduceEqDiff, reduceIte]; go_simp; done) | (simp only [execOp, evF, upd, Nat.reduceEqDiff, reduceIte]; go_simp; omega)) ?_
  dsimp only [updO]
  refine f_load_pr (by rfl) _ rfl ⟨gt, jj, none⟩ rfl (some ⟨Q1, 0, none⟩) (fun w' hc => (HG w' hc).2.2.2) ?_
  dsimp only [updO]
  refine f_enter (fun vv w' => vv = .int .i64 (uniErr a0 t1) ∧ Quad W9 w' P0 B0 Q0 P1 B1 Q1 (uniS a0 t1) a0 t1 t1) 10 #[.pointer (some ⟨P0, 0, none⟩), .pointer (some ⟨P1, 0, none⟩)] (by rfl) (run_call_fn _ _ _ _ _ _ _ rfl rfl rfl (enters_of Tryz.func10 (by kernel_rfl) rfl _ _)) ((quad_Union hD0 H6 G0 G1).mono (by rintro e W' ⟨rfl, hq⟩; exact ⟨_, rfl, ⟨rfl, hq⟩, hq.mono4 HF⟩)) ?_
  rintro _ w1 ⟨rfl, hq⟩ hst
  dsimp only [updO]
  refine f_enter (fun vv w' => vv = .int .i64 (uniErr a0 t1) ∧ Quad W9 w' P0 B0 Q0 P1 B1 Q1 (uniS a0 t1) (uniS a0 t1) t1 t1) 11 #[.pointer (some ⟨Q0, 0, none⟩), .pointer (some ⟨Q1, 0, none⟩)] (by rfl) (run_call_fn _ _ _ _ _ _ _ rfl rfl rfl (enters_of Tryz.func11 (by kernel_rfl) rfl _ _)) ((quad_rUnion hq H6 G0.1 G1.1 G0.2.2 G1.2.2).mono (by rintro e W' ⟨rfl, hq⟩; exact ⟨_, rfl, ⟨rfl, hq⟩, hq.mono4 HF⟩)) ?_
  rintro _ w2 ⟨rfl, hq2⟩ hst2
  dsimp only [updO]
  generalize uniErr a0 t1 = ue at *
  refine f_val (.bool false) (by rfl) (fun _ _ => by first | rfl | (simp only [execOp, evF, upd, Nat.reduceEqDiff, reduceIte]; go_simp; done) | (simp only [execOp, evF, upd, Nat.reduceEqDiff, reduceIte]; go_simp; omega)) ?_
  dsimp only [updO]
  refine f_done ?_
  exact ⟨_, _, _, _, _, _, _, _, _, _, _, _, _, _, _, _, _, _, _, _, _, rfl, rfl, hq2⟩
set_option maxRecDepth 100000 in
set_option maxHeartbeats 4000000 in
theorem reg24 (a : Act) (hs : a.tmps.size = 320) {w : World} {AI : Option Addr} {ci : Nat} {ids : List Bs} (KI : Strs w AI ids) (LI : AI = none → ci = 0 ∧ ids = []) (hi10 : ids.length ≤ 10) (HXI : ∀ x ∈ ids, x.length ≤ 281474976710656) {AL : Option Addr} {cL : Nat} {L : List Bs} (hcL : L.length ≤ cL) (hl0 : L.length ≤ 4000) (KL : Strs w AL L) (LL : AL = none → cL = 0 ∧ L = []) (HXL : ∀ x ∈ L, x.length = 32) (h2 : a.tmps.getD 2 undef = (.slice AI ids.length ci)) (h17 : a.tmps.getD 17 undef = (.slice AL L.length cL)) (Q : Exit → Act → World → Prop)
    (K : ∀ (u130 u132 u133 u134 u135 u136 u129 u131 u137 u18 : Value) (w' : World), (∃ (As : Option Addr) (ss : List Bs) (cs2 : Nat), u18 = .slice As ss.length cs2 ∧ Strs w' As ss ∧ ss.length ≤ cs2 ∧ ss.length ≤ 20000 ∧ (∀ x ∈ ss, x.length ≤ 281474976710656) ∧ Below w.heap.size w w') → Q .normal (putL a [(130, u130), (132, u132), (133, u133), (134, u134), (135, u135), (136, u136), (129, u129), (131, u131), (137, u137), (18, u18)]) w') : Code.wp Tryz.prog (cod 24) Q a w := by
  have hr := ((rep_self hs).know (d := 2) (v := (.slice AI ids.length ci)) h2).know (d := 17) (v := (.slice AL L.length cL)) h17
  conv => arg 2; whnf
  refine wp_region_F 320 _ [0, 2, 1, 3, 2, 4, 3, 5, 4, 6, 5] (fun w' => Below w.heap.size w w') (fun w' => Below w.heap.size w w') (fun f' w' => ∃ u130 u132 u133 u134 u135 u136 u129 u131 u137 u18 : Value, f' = updL (upd (upd (fun t => a.tmps.getD t undef) 2 (.slice AI ids.length ci)) 17 (.slice AL L.length cL)) [(130, u130), (132, u132), (133, u133), (134, u134), (135, u135), (136, u136), (129, u129), (131, u131), (137, u137), (18, u18)] ∧ (∃ (As : Option Addr) (ss : List Bs) (cs2 : Nat), u18 = .slice As ss.length cs2 ∧ Strs w' As ss ∧ ss.length ≤ cs2 ∧ ss.length ≤ 20000 ∧ (∀ x ∈ ss, x.length ≤ 281474976710656) ∧ Below w.heap.size w w')) [true, true, true, true, true, true, false, false, false, true] [1, 3, 4, 5, 6, 7, 0, 2, 8, 9] (by kernel_rfl) (by kernel_rfl) (by kernel_rfl) (by kernel_rfl) hr ((Below.drew (Below.refl _ _))) ((Below.drew (Below.refl _ _))) ?_ ?_
  rotate_left
  · rintro a' f' w' hr' hd ⟨u130, u132, u133, u134, u135, u136, u129, u131, u137, u18, rfl, hres⟩
    obtain rfl : a' = putL a [(130, u130), (132, u132), (133, u133), (134, u134), (135, u135), (136, u136), (129, u129), (131, u131), (137, u137), (18, u18)] := hr'.ext (hr.putL [(130, u130), (132, u132), (133, u133), (134, u134), (135, u135), (136, u136), (129, u129), (131, u131), (137, u137), (18, u18)] (by rfl)) (hd.trans (putL_defers _ _).symm)
    exact K u130 u132 u133 u134 u135 u136 u129 u131 u137 u18 w' hres
  intro w0 hC0 hD0
  clear K hr hs h2 h17
  dsimp only [List.foldl, swapAt]
  have Ln1 : (L.take (L.length / 2)).length = L.length / 2 := by rw [List.length_take]; omega
  obtain ⟨v1, w1, v2, w2, hr1, hr2, ho, b1, b2⟩ := two_appends w0 (c1 := ci) (c2 := cL) (KI.keep hC0) (HS.take (Lib.hid (KL.keep hC0)) (L.length / 2)) LI (fun e => ⟨(LL e).1, by rw [(LL e).2, List.take_nil]⟩) (by rw [Ln1]; omega)
  rw [Ln1] at hr2
  refine f_val (.slice AI ids.length ci) (by rfl) (fun _ _ => by first | rfl | (simp only [execOp, evF, upd, Nat.reduceEqDiff, reduceIte]; go_simp; done) | (simp only [execOp, evF, upd, Nat.reduceEqDiff, reduceIte]; go_simp; omega)) ?_
  dsimp only [updO]
  refine f_val (.slice AL L.length cL) (by rfl) (fun _ _ => by first | rfl | (simp only [execOp, evF, upd, Nat.reduceEqDiff, reduceIte]; go_simp; done) | (simp only [execOp, evF, upd, Nat.reduceEqDiff, reduceIte]; go_simp; omega)) ?_
  dsimp only [updO]
  refine f_val (.slice AL L.length cL) (by rfl) (fun _ _ => by first | rfl | (simp only [execOp, evF, upd, Nat.reduceEqDiff, reduceIte]; go_simp; done) | (simp only [execOp, evF, upd, Nat.reduceEqDiff, reduceIte]; go_simp; omega)) ?_
  dsimp only [updO]
  refine f_len (by rfl) _ _ rfl _ Tryz.underlying24 AL L.length cL rfl ?_
  dsimp only [updO]
  refine f_val (.int .i64 ((L.length / 2 : Nat) : Int)) (by rfl) (fun _ _ => by simp only [execOp, evF, upd, Nat.reduceEqDiff, reduceIte]; go_simp; rw [IntWalk.i64_in _ (by omega)]; try omega) ?_
  dsimp only [updO]
  refine f_slice_hi (by rfl) _ _ rfl AL L.length cL (L.length / 2) rfl rfl (by omega) ?_
  dsimp only [updO]
  refine f_stand (.slice (some ⟨w0.heap.size, 0, none⟩) 0 0) (w0.alloc (.cells #[] 9)) (by rfl) (by simp only [execOp]; go_simp) (hC0.trans (((Below.refl _ w0).alloc (Nat.le_refl _) _).mono hC0.size)) ?_
  dsimp only [updO]
  refine f_append (t := 24) rfl rfl rfl hr1 (by rfl) (hC0.trans (b1.mono hC0.size)) ?_
  dsimp only [updO]
  refine f_append (t := 24) rfl rfl rfl hr2 (by rfl) (hC0.trans (b2.mono hC0.size)) ?_
  dsimp only [updO]
  refine f_val v2 (by rfl) (fun _ _ => by rfl) ?_
  dsimp only [updO]
  obtain ⟨As, cs2, hv2, hcs2, hss⟩ := RowS.slice ho
  have hsl : (ids ++ L.take (L.length / 2)).length ≤ 20000 := by rw [List.length_append, Ln1]; omega
  have hsx : ∀ x ∈ ids ++ L.take (L.length / 2), x.length ≤ 281474976710656 := fun x hx => (List.mem_append.1 hx).elim (HXI x) (fun h => by rw [HXL x (List.mem_of_mem_take h)]; decide)
  refine f_done ?_
  exact ⟨_, _, _, _, _, _, _, _, _, _, rfl, As, _, cs2, hv2, hss, hcs2, hsl, hsx, hC0.trans (b2.mono hC0.size)⟩
set_option maxRecDepth 100000 in
set_option maxHeartbeats 4000000 in
theorem reg26 (a : Act) (hs : a.tmps.size = 320) {w : World} {AL : Option Addr} {cL : Nat} {L : List Bs} (hcL : L.length ≤ cL) (hl0 : L.length ≤ 4000) (KL : Strs w AL L) (LL : AL = none → cL = 0 ∧ L = []) (HXL : ∀ x ∈ L, x.length = 32) (h17 : a.tmps.getD 17 undef = (.slice AL L.length cL)) (Q : Exit → Act → World → Prop)
    (K : ∀ (u143 u144 u145 u146 u147 u149 u150 u151 u152 u153 u142 u148 u154 u18 : Value) (w' : World), (∃ (As : Option Addr) (ss : List Bs) (cs2 : Nat), u18 = .slice As ss.length cs2 ∧ Strs w' As ss ∧ ss.length ≤ cs2 ∧ ss.length ≤ 20000 ∧ (∀ x ∈ ss, x.length ≤ 281474976710656) ∧ Below w.heap.size w w') → Q .normal (putL a [(143, u143), (144, u144), (145, u145), (146, u146), (147, u147), (149, u149), (150, u150), (151, u151), (152, u152), (153, u153), (142, u142), (148, u148), (154, u154), (18, u18)]) w') : Code.wp Tryz.prog (cod 26) Q a w := by
  have hr := (rep_self hs).know (d := 17) (v := (.slice AL L.length cL)) h17
  conv => arg 2; whnf
  refine wp_region_F 320 _ [0, 1, 2, 3, 4, 6, 5, 7, 6, 8, 7, 9, 8, 10, 9] (fun w' => Below w.heap.size w w') (fun w' => Below w.heap.size w w') (fun f' w' => ∃ u143 u144 u145 u146 u147 u149 u150 u151 u152 u153 u142 u148 u154 u18 : Value, f' = updL (upd (fun t => a.tmps.getD t undef) 17 (.slice AL L.length cL)) [(143, u143), (144, u144), (145, u145), (146, u146), (147, u147), (149, u149), (150, u150), (151, u151), (152, u152), (153, u153), (142, u142), (148, u148), (154, u154), (18, u18)] ∧ (∃ (As : Option Addr) (ss : List Bs) (cs2 : Nat), u18 = .slice As ss.length cs2 ∧ Strs w' As ss ∧ ss.length ≤ cs2 ∧ ss.length ≤ 20000 ∧ (∀ x ∈ ss, x.length ≤ 281474976710656) ∧ Below w.heap.size w w')) [true, true, true, true, true, true, true, true, true, true, false, false, false, true] [1, 2, 3, 4, 5, 7, 8, 9, 10, 11, 0, 6, 12, 13] (by kernel_rfl) (by kernel_rfl) (by kernel_rfl) (by kernel_rfl) hr ((Below.drew (Below.refl _ _))) ((Below.drew (Below.refl _ _))) ?_ ?_
  rotate_left
  · rintro a' f' w' hr' hd ⟨u143, u144, u145, u146, u147, u149, u150, u151, u152, u153, u142, u148, u154, u18, rfl, hres⟩
    obtain rfl : a' = putL a [(143, u143), (144, u144), (145, u145), (146, u146), (147, u147), (149, u149), (150, u150), (151, u151), (152, u152), (153, u153), (142, u142), (148, u148), (154, u154), (18, u18)] := hr'.ext (hr.putL [(143, u143), (144, u144), (145, u145), (146, u146), (147, u147), (149, u149), (150, u150), (151, u151), (152, u152), (153, u153), (142, u142), (148, u148), (154, u154), (18, u18)] (by rfl)) (hd.trans (putL_defers _ _).symm)
    exact K u143 u144 u145 u146 u147 u149 u150 u151 u152 u153 u142 u148 u154 u18 w' hres
  intro w0 hC0 hD0
  clear K hr hs h17
  dsimp only [List.foldl, swapAt]
  have Ln2 : (L.drop (L.length / 3)).length = L.length - L.length / 3 := List.length_drop
  have Ln3 : (L.drop (L.length / 2)).length = L.length - L.length / 2 := List.length_drop
  obtain ⟨v1, w1, v2, w2, hr1, hr2, ho, b1, b2⟩ := two_appends w0 (c1 := cL - L.length / 3) (c2 := cL - L.length / 2) (fromA_strs (KL.keep hC0) hcL (L.length / 3)) (fromA_strs (KL.keep hC0) hcL (L.length / 2)) (fun e => ⟨by rw [(LL (fromA_none e)).1]; omega, by rw [(LL (fromA_none e)).2, List.drop_nil]⟩) (fun e => ⟨by rw [(LL (fromA_none e)).1]; omega, by rw [(LL (fromA_none e)).2, List.drop_nil]⟩) (by rw [Ln2, Ln3]; omega)
  rw [Ln2] at hr1
  rw [Ln3] at hr2
  refine f_val (.slice AL L.length cL) (by rfl) (fun _ _ => by first | rfl | (simp only [execOp, evF, upd, Nat.reduceEqDiff, reduceIte]; go_simp; done) | (simp only [execOp, evF, upd, Nat.reduceEqDiff, reduceIte]; go_simp; omega)) ?_
  dsimp only [updO]
  refine f_val (.slice AL L.length cL) (by rfl) (fun _ _ => by first | rfl | (simp only [execOp, evF, upd, Nat.reduceEqDiff, reduceIte]; go_simp; done) | (simp only [execOp, evF, upd, Nat.reduceEqDiff, reduceIte]; go_simp; omega)) ?_
  dsimp only [updO]
  refine f_len (by rfl) _ _ rfl _ Tryz.underlying24 AL L.length cL rfl ?_
  dsimp only [updO]
  refine f_val (.int .i64 ((L.length / 3 : Nat) : Int)) (by rfl) (fun _ _ => by simp only [execOp, evF, upd, Nat.reduceEqDiff, reduceIte]; go_simp; rw [IntWalk.i64_in _ (by omega)]; try omega) ?_
  dsimp only [updO]
  refine f_slice_lo (by rfl) _ _ rfl AL L.length cL (L.length / 3) rfl rfl (by omega) ?_
  dsimp only [updO]
  refine f_val (.slice AL L.length cL) (by rfl) (fun _ _ => by first | rfl | (simp only [execOp, evF, upd, Nat.reduceEqDiff, reduceIte]; go_simp; done) | (simp only [execOp, evF, upd, Nat.reduceEqDiff, reduceIte]; go_simp; omega)) ?_
  dsimp only [updO]
  refine f_val (.slice AL L.length cL) (by rfl) (fun _ _ => by first | rfl | (simp only [execOp, evF, upd, Nat.reduceEqDiff, reduceIte]; go_simp; done) | (simp only [execOp, evF, upd, Nat.reduceEqDiff, reduceIte]; go_simp; omega)) ?_
  dsimp only [updO]
  refine f_len (by rfl) _ _ rfl _ Tryz.underlying24 AL L.length cL rfl ?_
  dsimp only [updO]
  refine f_val (.int .i64 ((L.length / 2 : Nat) : Int)) (by rfl) (fun _ _ => by simp only [execOp, evF, upd, Nat.reduceEqDiff, reduceIte]; go_simp; rw [IntWalk.i64_in _ (by omega)]; try omega) ?_
  dsimp only [updO]
  refine f_slice_lo (by rfl) _ _ rfl AL L.length cL (L.length / 2) rfl rfl (by omega) ?_
  dsimp only [updO]
  refine f_stand (.slice (some ⟨w0.heap.size, 0, none⟩) 0 0) (w0.alloc (.cells #[] 9)) (by rfl) (by simp only [execOp]; go_simp) (hC0.trans (((Below.refl _ w0).alloc (Nat.le_refl _) _).mono hC0.size)) ?_
  dsimp only [updO]
  refine f_append (t := 24) rfl rfl rfl hr1 (by rfl) (hC0.trans (b1.mono hC0.size)) ?_
  dsimp only [updO]
  refine f_append (t := 24) rfl rfl rfl hr2 (by rfl) (hC0.trans (b2.mono hC0.size)) ?_
  dsimp only [updO]
  refine f_val v2 (by rfl) (fun _ _ => by rfl) ?_
  dsimp only [updO]
  obtain ⟨As, cs2, hv2, hcs2, hss⟩ := RowS.slice ho
  have hsl : (L.drop (L.length / 3) ++ L.drop (L.length / 2)).length ≤ 20000 := by rw [List.length_append, Ln2, Ln3]; omega
  have hsx : ∀ x ∈ L.drop (L.length / 3) ++ L.drop (L.length / 2), x.length ≤ 281474976710656 := fun x hx => (List.mem_append.1 hx).elim (fun h => by rw [HXL x (List.mem_of_mem_drop h)]; decide) (fun h => by rw [HXL x (List.mem_of_mem_drop h)]; decide)
  refine f_done ?_
  exact ⟨_, _, _, _, _, _, _, _, _, _, _, _, _, _, rfl, As, _, cs2, hv2, hss, hcs2, hsl, hsx, hC0.trans (b2.mono hC0.size)⟩
set_option maxRecDepth 100000 in
set_option maxHeartbeats 4000000 in
theorem reg29f (a : Act) (hs : a.tmps.size = 320) {W9 w : World} {gs gt kk jj P0 B0 Q0 P1 B1 Q1 : Nat} {F4 : Nat → Prop} {a0 t1 : List Ent} (HG : ∀ W, Stat W9 W F4 → W.cell? ⟨gs, kk, none⟩ = some (.pointer (some ⟨P0, 0, none⟩)) ∧ W.cell? ⟨gs, jj, none⟩ = some (.pointer (some ⟨P1, 0, none⟩)) ∧ W.cell? ⟨gt, kk, none⟩ = some (.pointer (some ⟨Q0, 0, none⟩)) ∧ W.cell? ⟨gt, jj, none⟩ = some (.pointer (some ⟨Q1, 0, none⟩))) (_k0 : (0 : Int) ≤ (kk : Int)) (_k2 : (kk : Int) < 2) (j0 : (0 : Int) ≤ (jj : Int)) (j2 : (jj : Int) < 2) (q3 : IntKind.i64.wrap (1 - (kk : Int)) = (jj : Int)) (_H6 : Six W9.heap.size P0 B0 Q0 P1 B1 Q1) (HF : Four B0 Q0 B1 Q1 = F4) {As : Option Addr} {ss : List Bs} {cs2 : Nat} (HSS : Strs w As ss) (hcs2 : ss.length ≤ cs2) (hsl : ss.length ≤ 20000) (HSX : ∀ x ∈ ss, x.length ≤ 281474976710656) (hQ : Quad W9 w P0 B0 Q0 P1 B1 Q1 a0 a0 t1 t1) (G1 : Good t1) (h8 : a.tmps.getD 8 undef = (.slice (some ⟨gs, 0, none⟩) 2 2)) (h9 : a.tmps.getD 9 undef = (.slice (some ⟨gt, 0, none⟩) 2 2)) (h12 : a.tmps.getD 12 undef = (.int .i64 (kk : Int))) (h18 : a.tmps.getD 18 undef = (.slice As ss.length cs2)) (h20 : a.tmps.getD 20 undef = (.bool false)) (h22 : a.tmps.getD 22 undef = (.bool false)) (Q : Exit → Act → World → Prop)
    (K : ∀ (u173 u174 u175 u176 u177 u178 u179 u180 u181 u182 u183 u184 u185 u186 u187 u188 u189 u190 u191 u192 u193 u194 u195 u196 u197 u198 u199 u200 u201 u203 u204 u205 u206 u207 u208 u202 u209 u210 u211 u212 : Value) (w' : World), (u212 = .bool false ∧ Below w.heap.size w w') → Q .normal (putL a [(173, u173), (174, u174), (175, u175), (176, u176), (177, u177), (178, u178), (179, u179), (180, u180), (181, u181), (182, u182), (183, u183), (184, u184), (185, u185), (186, u186), (187, u187), (188, u188), (189, u189), (190, u190), (191, u191), (192, u192), (193, u193), (194, u194), (195, u195), (196, u196), (197, u197), (198, u198), (199, u199), (200, u200), (201, u201), (203, u203), (204, u204), (205, u205), (206, u206), (207, u207), (208, u208), (202, u202), (209, u209), (210, u210), (211, u211), (212, u212)]) w') : Code.wp Tryz.prog (cod 29) Q a w := by
  have hr := ((((((rep_self hs).know (d := 8) (v := (.slice (some ⟨gs, 0, none⟩) 2 2)) h8).know (d := 9) (v := (.slice (some ⟨gt, 0, none⟩) 2 2)) h9).know (d := 12) (v := (.int .i64 (kk : Int))) h12).know (d := 18) (v := (.slice As ss.length cs2)) h18).know (d := 20) (v := (.bool false)) h20).know (d := 22) (v := (.bool false)) h22
  conv => arg 2; whnf
  refine wp_region_F 320 _ [29, 30, 31, 32, 33, 34] (fun w' => Below w.heap.size w w') (fun w' => Below w.heap.size w w') (fun f' w' => ∃ u173 u174 u175 u176 u177 u178 u179 u180 u181 u182 u183 u184 u185 u186 u187 u188 u189 u190 u191 u192 u193 u194 u195 u196 u197 u198 u199 u200 u201 u203 u204 u205 u206 u207 u208 u202 u209 u210 u211 u212 : Value, f' = updL (upd (upd (upd (upd (upd (upd (fun t => a.tmps.getD t undef) 8 (.slice (some ⟨gs, 0, none⟩) 2 2)) 9 (.slice (some ⟨gt, 0, none⟩) 2 2)) 12 (.int .i64 (kk : Int))) 18 (.slice As ss.length cs2)) 20 (.bool false)) 22 (.bool false)) [(173, u173), (174, u174), (175, u175), (176, u176), (177, u177), (178, u178), (179, u179), (180, u180), (181, u181), (182, u182), (183, u183), (184, u184), (185, u185), (186, u186), (187, u187), (188, u188), (189, u189), (190, u190), (191, u191), (192, u192), (193, u193), (194, u194), (195, u195), (196, u196), (197, u197), (198, u198), (199, u199), (200, u200), (201, u201), (203, u203), (204, u204), (205, u205), (206, u206), (207, u207), (208, u208), (202, u202), (209, u209), (210, u210), (211, u211), (212, u212)] ∧ (u212 = .bool false ∧ Below w.heap.size w w')) [true, true, true, true, true, true, true, true, true, true, true, true, true, true, true, true, true, true, true, true, true, true, true, true, true, true, true, true, true, true, true, true, true, true, true, false, false, false, true, true] [0, 1, 2, 3, 4, 5, 6, 7, 8, 9, 10, 11, 12, 13, 14, 15, 16, 17, 18, 19, 20, 21, 22, 23, 24, 25, 26, 27, 28, 30, 31, 32, 33, 34, 35, 29, 36, 37, 38, 39] (by kernel_rfl) (by kernel_rfl) (by kernel_rfl) (by kernel_rfl) hr ((Below.drew (Below.refl _ _))) ((Below.drew (Below.refl _ _))) ?_ ?_
  rotate_left
  · rintro a' f' w' hr' hd ⟨u173, u174, u175, u176, u177, u178, u179, u180, u181, u182, u183, u184, u185, u186, u187, u188, u189, u190, u191, u192, u193, u194, u195, u196, u197, u198, u199, u200, u201, u203, u204, u205, u206, u207, u208, u202, u209, u210, u211, u212, rfl, hres⟩
    obtain rfl : a' = putL a [(173, u173), (174, u174), (175, u175), (176, u176), (177, u177), (178, u178), (179, u179), (180, u180), (181, u181), (182, u182), (183, u183), (184, u184), (185, u185), (186, u186), (187, u187), (188, u188), (189, u189), (190, u190), (191, u191), (192, u192), (193, u193), (194, u194), (195, u195), (196, u196), (197, u197), (198, u198), (199, u199), (200, u200), (201, u201), (203, u203), (204, u204), (205, u205), (206, u206), (207, u207), (208, u208), (202, u202), (209, u209), (210, u210), (211, u211), (212, u212)] := hr'.ext (hr.putL [(173, u173), (174, u174), (175, u175), (176, u176), (177, u177), (178, u178), (179, u179), (180, u180), (181, u181), (182, u182), (183, u183), (184, u184), (185, u185), (186, u186), (187, u187), (188, u188), (189, u189), (190, u190), (191, u191), (192, u192), (193, u193), (194, u194), (195, u195), (196, u196), (197, u197), (198, u198), (199, u199), (200, u200), (201, u201), (203, u203), (204, u204), (205, u205), (206, u206), (207, u207), (208, u208), (202, u202), (209, u209), (210, u210), (211, u211), (212, u212)] (by rfl)) (hd.trans (putL_defers _ _).symm)
    exact K u173 u174 u175 u176 u177 u178 u179 u180 u181 u182 u183 u184 u185 u186 u187 u188 u189 u190 u191 u192 u193 u194 u195 u196 u197 u198 u199 u200 u201 u203 u204 u205 u206 u207 u208 u202 u209 u210 u211 u212 w' hres
  intro w0 hC0 hD0
  clear K hr hs h8 h9 h12 h18 h20 h22
  dsimp only [List.foldl, swapAt]
  have hCC := hC0
  refine f_val (.bool false) (by rfl) (fun _ _ => by first | rfl | (simp only [execOp, evF, upd, Nat.reduceEqDiff, reduceIte]; go_simp; done) | (simp only [execOp, evF, upd, Nat.reduceEqDiff, reduceIte]; go_simp; omega)) ?_
  dsimp only [updO]
  refine f_val (.bool false) (by rfl) (fun _ _ => by first | rfl | (simp only [execOp, evF, upd, Nat.reduceEqDiff, reduceIte]; go_simp; done) | (simp only [execOp, evF, upd, Nat.reduceEqDiff, reduceIte]; go_simp; omega)) ?_
  dsimp only [updO]
  refine f_val (.bool false) (by rfl) (fun _ _ => by first | rfl | (simp only [execOp, evF, upd, Nat.reduceEqDiff, reduceIte]; go_simp; done) | (simp only [execOp, evF, upd, Nat.reduceEqDiff, reduceIte]; go_simp; omega)) ?_
  dsimp only [updO]
  refine f_val (.bool false) (by rfl) (fun _ _ => by first | rfl | (simp only [execOp, evF, upd, Nat.reduceEqDiff, reduceIte]; go_simp; done) | (simp only [execOp, evF, upd, Nat.reduceEqDiff, reduceIte]; go_simp; omega)) ?_
  dsimp only [updO]
  refine f_val (.bool false) (by rfl) (fun _ _ => by first | rfl | (simp only [execOp, evF, upd, Nat.reduceEqDiff, reduceIte]; go_simp; done) | (simp only [execOp, evF, upd, Nat.reduceEqDiff, reduceIte]; go_simp; omega)) ?_
  dsimp only [updO]
  refine f_val (.bool false) (by rfl) (fun _ _ => by first | rfl | (simp only [execOp, evF, upd, Nat.reduceEqDiff, reduceIte]; go_simp; done) | (simp only [execOp, evF, upd, Nat.reduceEqDiff, reduceIte]; go_simp; omega)) ?_
  dsimp only [updO]
  refine f_off (by rfl) ?_
  dsimp only [updO]
  refine f_off (by rfl) ?_
  dsimp only [updO]
  refine f_off (by rfl) ?_
  dsimp only [updO]
  refine f_off (by rfl) ?_
  dsimp only [updO]
  refine f_off (by rfl) ?_
  dsimp only [updO]
  refine f_off (by rfl) ?_
  dsimp only [updO]
  refine f_off (by rfl) ?_
  dsimp only [updO]
  refine f_off (by rfl) ?_
  dsimp only [updO]
  refine f_off (by rfl) ?_
  dsimp only [updO]
  refine f_off (by rfl) ?_
  dsimp only [updO]
  refine f_off (by rfl) ?_
  dsimp only [updO]
  refine f_off (by rfl) ?_
  dsimp only [updO]
  refine f_off (by rfl) ?_
  dsimp only [updO]
  refine f_off (by rfl) ?_
  dsimp only [updO]
  refine f_val (.bool false) (by rfl) (fun _ _ => by first | rfl | (simp only [execOp, evF, upd, Nat.reduceEqDiff, reduceIte]; go_simp; done) | (simp only [execOp, evF, upd, Nat.reduceEqDiff, reduceIte]; go_simp; omega)) ?_
  dsimp only [updO]
  refine f_val (.bool false) (by rfl) (fun _ _ => by first | rfl | (simp only [execOp, evF, upd, Nat.reduceEqDiff, reduceIte]; go_simp; done) | (simp only [execOp, evF, upd, Nat.reduceEqDiff, reduceIte]; go_simp; omega)) ?_
  dsimp only [updO]
  refine f_val (.bool false) (by rfl) (fun _ _ => by first | rfl | (simp only [execOp, evF, upd, Nat.reduceEqDiff, reduceIte]; go_simp; done) | (simp only [execOp, evF, upd, Nat.reduceEqDiff, reduceIte]; go_simp; omega)) ?_
  dsimp only [updO]
  refine f_val (.slice (some ⟨gs, 0, none⟩) 2 2) (by rfl) (fun _ _ => by first | rfl | (simp only [execOp, evF, upd, Nat.reduceEqDiff, reduceIte]; go_simp; done) | (simp only [execOp, evF, upd, Nat.reduceEqDiff, reduceIte]; go_simp; omega)) ?_
  dsimp only [updO]
  refine f_val (.int .i64 (kk : Int)) (by rfl) (fun _ _ => by first | rfl | (simp only [execOp, evF, upd, Nat.reduceEqDiff, reduceIte]; go_simp; done) | (simp only [execOp, evF, upd, Nat.reduceEqDiff, reduceIte]; go_simp; omega)) ?_
  dsimp only [updO]
  refine f_val (.int .i64 (jj : Int)) (by rfl) (fun _ _ => by first | rfl | (simp only [execOp, evF, upd, Nat.reduceEqDiff, reduceIte]; go_simp; done) | (simp only [execOp, evF, upd, Nat.reduceEqDiff, reduceIte]; go_simp; omega)) ?_
  dsimp only [updO]
  refine f_val (.pointer (some ⟨gs, jj, none⟩)) (by rfl) (fun _ _ => by first | rfl | (simp only [execOp, evF, upd, Nat.reduceEqDiff, reduceIte]; go_simp; done) | (simp only [execOp, evF, upd, Nat.reduceEqDiff, reduceIte]; go_simp; omega)) ?_
  dsimp only [updO]
  refine f_load_ps (by rfl) _ rfl ⟨gs, jj, none⟩ rfl (some ⟨P1, 0, none⟩) (fun w' hc => (HG w' ((hQ.below hc).mono4 HF)).2.1) ?_
  dsimp only [updO]
  refine f_val (.slice As ss.length cs2) (by rfl) (fun _ _ => by first | rfl | (simp only [execOp, evF, upd, Nat.reduceEqDiff, reduceIte]; go_simp; done) | (simp only [execOp, evF, upd, Nat.reduceEqDiff, reduceIte]; go_simp; omega)) ?_
  dsimp only [updO]
  refine f_val (.slice (some ⟨gt, 0, none⟩) 2 2) (by rfl) (fun _ _ => by first | rfl | (simp only [execOp, evF, upd, Nat.reduceEqDiff, reduceIte]; go_simp; done) | (simp only [execOp, evF, upd, Nat.reduceEqDiff, reduceIte]; go_simp; omega)) ?_
  dsimp only [updO]
  refine f_val (.int .i64 (kk : Int)) (by rfl) (fun _ _ => by first | rfl | (simp only [execOp, evF, upd, Nat.reduceEqDiff, reduceIte]; go_simp; done) | (simp only [execOp, evF, upd, Nat.reduceEqDiff, reduceIte]; go_simp; omega)) ?_
  dsimp only [updO]
  refine f_val (.int .i64 (jj : Int)) (by rfl) (fun _ _ => by first | rfl | (simp only [execOp, evF, upd, Nat.reduceEqDiff, reduceIte]; go_simp; done) | (simp only [execOp, evF, upd, Nat.reduceEqDiff, reduceIte]; go_simp; omega)) ?_
  dsimp only [updO]
  refine f_val (.pointer (some ⟨gt, jj, none⟩)) (by rfl) (fun _ _ => by first | rfl | (simp only [execOp, evF, upd, Nat.reduceEqDiff, reduceIte]; go_simp; done) | (simp only [execOp, evF, upd, Nat.reduceEqDiff, reduceIte]; go_simp; omega)) ?_
  dsimp only [updO]
  refine f_load_pr (by rfl) _ rfl ⟨gt, jj, none⟩ rfl (some ⟨Q1, 0, none⟩) (fun w' hc => (HG w' ((hQ.below hc).mono4 HF)).2.2.2) ?_
  dsimp only [updO]
  refine f_val (.slice As ss.length cs2) (by rfl) (fun _ _ => by first | rfl | (simp only [execOp, evF, upd, Nat.reduceEqDiff, reduceIte]; go_simp; done) | (simp only [execOp, evF, upd, Nat.reduceEqDiff, reduceIte]; go_simp; omega)) ?_
  dsimp only [updO]
  obtain ⟨rv1, rl1, hR1, hrl1⟩ := (hQ.swap.below hCC).ref
  refine f_enter (fun vv w' => StrP w' vv (missK t1 ss) ∧ Below w0.heap.size w0 w') 20 #[.pointer (some ⟨P1, 0, none⟩), .slice As ss.length cs2] (by rfl) (run_call_fn _ _ _ _ _ _ _ rfl rfl rfl (enters_of Tryz.func20 (by kernel_rfl) rfl _ _)) ((missZ P1 B1 t1 ss As cs2 w0 (hQ.swap.below hCC).set G1 (HSS.keep hCC) hsl hcs2 HSX).mono (by rintro e W' ⟨v, rfl, hv, hb⟩; exact ⟨_, rfl, ⟨hv, hb⟩, hCC.trans (hb.mono hCC.size)⟩)) ?_
  rintro vy1 y1 ⟨hvy1, hby1⟩ hCy1
  dsimp only [updO]
  replace hCC := hCy1
  refine f_enter (fun vv w' => StrP w' vv (missK t1 ss) ∧ Below y1.heap.size y1 w') 21 #[.pointer (some ⟨Q1, 0, none⟩), .slice As ss.length cs2] (by rfl) (run_call_fn _ _ _ _ _ _ _ rfl rfl rfl (enters_of Tryz.func21 (by kernel_rfl) rfl _ _)) ((rMissZ Q1 rv1 rl1 t1 ss As cs2 y1 (hR1.below hby1) hrl1 G1 (HSS.keep hCC) hsl).mono (by rintro e W' ⟨v, rfl, hv, hb⟩; exact ⟨_, rfl, ⟨hv, hb⟩, hCC.trans (hb.mono hCC.size)⟩)) ?_
  rintro vy2 y2 ⟨hvy2, hby2⟩ hCy2
  dsimp only [updO]
  replace hCC := hCy2
  refine f_enter (fun vv w' => vv = .bool true ∧ Below y2.heap.size y2 w') 15 #[vy1, vy2] (by rfl) (run_call_fn _ _ _ _ _ _ _ rfl rfl rfl (enters_of Tryz.func15 (by kernel_rfl) rfl _ _)) ((sameSZ (missK t1 ss) vy1 vy2 y2 (hvy1.keep hby2) hvy2 (Nat.le_trans (missK_length_le t1 ss) (by omega))).mono (by rintro e W' ⟨rfl, hb⟩; exact ⟨_, rfl, ⟨rfl, hb⟩, hCC.trans (hb.mono hCC.size)⟩)) ?_
  rintro _ y3 ⟨rfl, hby3⟩ hCy3
  dsimp only [updO]
  replace hCC := hCy3
  refine f_val (.bool false) (by rfl) (fun _ _ => by first | rfl | (simp only [execOp, evF, upd, Nat.reduceEqDiff, reduceIte]; go_simp; done) | (simp only [execOp, evF, upd, Nat.reduceEqDiff, reduceIte]; go_simp; omega)) ?_
  dsimp only [updO]
  refine f_val (.bool false) (by rfl) (fun _ _ => by first | rfl | (simp only [execOp, evF, upd, Nat.reduceEqDiff, reduceIte]; go_simp; done) | (simp only [execOp, evF, upd, Nat.reduceEqDiff, reduceIte]; go_simp; omega)) ?_
  dsimp only [updO]
  refine f_done ?_
  exact ⟨_, _, _, _, _, _, _, _, _, _, _, _, _, _, _, _, _, _, _, _, _, _, _, _, _, _, _, _, _, _, _, _, _, _, _, _, _, _, _, _, rfl, rfl, hCC⟩
set_option maxRecDepth 100000 in
set_option maxHeartbeats 4000000 in
theorem reg29t (a : Act) (hs : a.tmps.size = 320) {W9 w : World} {gs gt kk jj P0 B0 Q0 P1 B1 Q1 : Nat} {F4 : Nat → Prop} {a0 t1 : List Ent} (HG : ∀ W, Stat W9 W F4 → W.cell? ⟨gs, kk, none⟩ = some (.pointer (some ⟨P0, 0, none⟩)) ∧ W.cell? ⟨gs, jj, none⟩ = some (.pointer (some ⟨P1, 0, none⟩)) ∧ W.cell? ⟨gt, kk, none⟩ = some (.pointer (some ⟨Q0, 0, none⟩)) ∧ W.cell? ⟨gt, jj, none⟩ = some (.pointer (some ⟨Q1, 0, none⟩))) (_k0 : (0 : Int) ≤ (kk : Int)) (_k2 : (kk : Int) < 2) (j0 : (0 : Int) ≤ (jj : Int)) (j2 : (jj : Int) < 2) (q3 : IntKind.i64.wrap (1 - (kk : Int)) = (jj : Int)) (_H6 : Six W9.heap.size P0 B0 Q0 P1 B1 Q1) (HF : Four B0 Q0 B1 Q1 = F4) {As : Option Addr} {ss : List Bs} {cs2 : Nat} (HSS : Strs w As ss) (hcs2 : ss.length ≤ cs2) (hsl : ss.length ≤ 20000) (HSX : ∀ x ∈ ss, x.length ≤ 281474976710656) (hQ : Quad W9 w P0 B0 Q0 P1 B1 Q1 a0 a0 t1 t1) (G1 : Good t1) {p' b' q' : Nat} {v' : Value} {l' : List El} {pe : List Ent} (hS1 : SetAt w p' b' pe) (hR2 : RSetAt w q' v' l') (he2 : esR l' = pe) (hGp : Good pe) (h8 : a.tmps.getD 8 undef = (.slice (some ⟨gs, 0, none⟩) 2 2)) (h9 : a.tmps.getD 9 undef = (.slice (some ⟨gt, 0, none⟩) 2 2)) (h12 : a.tmps.getD 12 undef = (.int .i64 (kk : Int))) (h18 : a.tmps.getD 18 undef = (.slice As ss.length cs2)) (h20 : a.tmps.getD 20 undef = (.bool true)) (h22 : a.tmps.getD 22 undef = (.bool true)) (h19 : a.tmps.getD 19 undef = (.pointer (some ⟨p', 0, none⟩))) (h21 : a.tmps.getD 21 undef = (.pointer (some ⟨q', 0, none⟩))) (Q : Exit → Act → World → Prop)
    (K : ∀ (u173 u174 u175 u176 u177 u178 u179 u181 u180 u182 u183 u184 u185 u186 u188 u187 u189 u190 u191 u192 u193 u194 u195 u196 u197 u198 u199 u200 u201 u203 u204 u205 u206 u207 u208 u202 u209 u210 u211 u212 : Value) (w' : World), (u212 = .bool false ∧ Below w.heap.size w w') → Q .normal (putL a [(173, u173), (174, u174), (175, u175), (176, u176), (177, u177), (178, u178), (179, u179), (181, u181), (180, u180), (182, u182), (183, u183), (184, u184), (185, u185), (186, u186), (188, u188), (187, u187), (189, u189), (190, u190), (191, u191), (192, u192), (193, u193), (194, u194), (195, u195), (196, u196), (197, u197), (198, u198), (199, u199), (200, u200), (201, u201), (203, u203), (204, u204), (205, u205), (206, u206), (207, u207), (208, u208), (202, u202), (209, u209), (210, u210), (211, u211), (212, u212)]) w') : Code.wp Tryz.prog (cod 29) Q a w := by
  have hr := ((((((((rep_self hs).know (d := 8) (v := (.slice (some ⟨gs, 0, none⟩) 2 2)) h8).know (d := 9) (v := (.slice (some ⟨gt, 0, none⟩) 2 2)) h9).know (d := 12) (v := (.int .i64 (kk : Int))) h12).know (d := 18) (v := (.slice As ss.length cs2)) h18).know (d := 20) (v := (.bool true)) h20).know (d := 22) (v := (.bool true)) h22).know (d := 19) (v := (.pointer (some ⟨p', 0, none⟩))) h19).know (d := 21) (v := (.pointer (some ⟨q', 0, none⟩))) h21
  conv => arg 2; whnf
  refine wp_region_F 320 _ [7, 14, 29, 30, 31, 32, 33, 34] (fun w' => Below w.heap.size w w') (fun w' => Below w.heap.size w w') (fun f' w' => ∃ u173 u174 u175 u176 u177 u178 u179 u181 u180 u182 u183 u184 u185 u186 u188 u187 u189 u190 u191 u192 u193 u194 u195 u196 u197 u198 u199 u200 u201 u203 u204 u205 u206 u207 u208 u202 u209 u210 u211 u212 : Value, f' = updL (upd (upd (upd (upd (upd (upd (upd (upd (fun t => a.tmps.getD t undef) 8 (.slice (some ⟨gs, 0, none⟩) 2 2)) 9 (.slice (some ⟨gt, 0, none⟩) 2 2)) 12 (.int .i64 (kk : Int))) 18 (.slice As ss.length cs2)) 20 (.bool true)) 22 (.bool true)) 19 (.pointer (some ⟨p', 0, none⟩))) 21 (.pointer (some ⟨q', 0, none⟩))) [(173, u173), (174, u174), (175, u175), (176, u176), (177, u177), (178, u178), (179, u179), (181, u181), (180, u180), (182, u182), (183, u183), (184, u184), (185, u185), (186, u186), (188, u188), (187, u187), (189, u189), (190, u190), (191, u191), (192, u192), (193, u193), (194, u194), (195, u195), (196, u196), (197, u197), (198, u198), (199, u199), (200, u200), (201, u201), (203, u203), (204, u204), (205, u205), (206, u206), (207, u207), (208, u208), (202, u202), (209, u209), (210, u210), (211, u211), (212, u212)] ∧ (u212 = .bool false ∧ Below w.heap.size w w')) [true, true, true, true, true, true, true, true, false, false, false, true, true, true, true, false, false, false, true, true, true, true, true, true, true, true, true, true, true, true, true, true, true, true, true, false, false, false, true, true] [0, 1, 2, 3, 4, 5, 6, 8, 7, 9, 10, 11, 12, 13, 15, 14, 16, 17, 18, 19, 20, 21, 22, 23, 24, 25, 26, 27, 28, 30, 31, 32, 33, 34, 35, 29, 36, 37, 38, 39] (by kernel_rfl) (by kernel_rfl) (by kernel_rfl) (by kernel_rfl) hr ((Below.drew (Below.refl _ _))) ((Below.drew (Below.refl _ _))) ?_ ?_
  rotate_left
  · rintro a' f' w' hr' hd ⟨u173, u174, u175, u176, u177, u178, u179, u181, u180, u182, u183, u184, u185, u186, u188, u187, u189, u190, u191, u192, u193, u194, u195, u196, u197, u198, u199, u200, u201, u203, u204, u205, u206, u207, u208, u202, u209, u210, u211, u212, rfl, hres⟩
    obtain rfl : a' = putL a [(173, u173), (174, u174), (175, u175), (176, u176), (177, u177), (178, u178), (179, u179), (181, u181), (180, u180), (182, u182), (183, u183), (184, u184), (185, u185), (186, u186), (188, u188), (187, u187), (189, u189), (190, u190), (191, u191), (192, u192), (193, u193), (194, u194), (195, u195), (196, u196), (197, u197), (198, u198), (199, u199), (200, u200), (201, u201), (203, u203), (204, u204), (205, u205), (206, u206), (207, u207), (208, u208), (202, u202), (209, u209), (210, u210), (211, u211), (212, u212)] := hr'.ext (hr.putL [(173, u173), (174, u174), (175, u175), (176, u176), (177, u177), (178, u178), (179, u179), (181, u181), (180, u180), (182, u182), (183, u183), (184, u184), (185, u185), (186, u186), (188, u188), (187, u187), (189, u189), (190, u190), (191, u191), (192, u192), (193, u193), (194, u194), (195, u195), (196, u196), (197, u197), (198, u198), (199, u199), (200, u200), (201, u201), (203, u203), (204, u204), (205, u205), (206, u206), (207, u207), (208, u208), (202, u202), (209, u209), (210, u210), (211, u211), (212, u212)] (by rfl)) (hd.trans (putL_defers _ _).symm)
    exact K u173 u174 u175 u176 u177 u178 u179 u181 u180 u182 u183 u184 u185 u186 u188 u187 u189 u190 u191 u192 u193 u194 u195 u196 u197 u198 u199 u200 u201 u203 u204 u205 u206 u207 u208 u202 u209 u210 u211 u212 w' hres
  intro w0 hC0 hD0
  clear K hr hs h8 h9 h12 h18 h20 h22 h19 h21
  dsimp only [List.foldl, swapAt]
  have hCC := hC0
  refine f_val (.bool true) (by rfl) (fun _ _ => by first | rfl | (simp only [execOp, evF, upd, Nat.reduceEqDiff, reduceIte]; go_simp; done) | (simp only [execOp, evF, upd, Nat.reduceEqDiff, reduceIte]; go_simp; omega)) ?_
  dsimp only [updO]
  refine f_val (.bool true) (by rfl) (fun _ _ => by first | rfl | (simp only [execOp, evF, upd, Nat.reduceEqDiff, reduceIte]; go_simp; done) | (simp only [execOp, evF, upd, Nat.reduceEqDiff, reduceIte]; go_simp; omega)) ?_
  dsimp only [updO]
  refine f_val (.bool false) (by rfl) (fun _ _ => by first | rfl | (simp only [execOp, evF, upd, Nat.reduceEqDiff, reduceIte]; go_simp; done) | (simp only [execOp, evF, upd, Nat.reduceEqDiff, reduceIte]; go_simp; omega)) ?_
  dsimp only [updO]
  refine f_val (.bool false) (by rfl) (fun _ _ => by first | rfl | (simp only [execOp, evF, upd, Nat.reduceEqDiff, reduceIte]; go_simp; done) | (simp only [execOp, evF, upd, Nat.reduceEqDiff, reduceIte]; go_simp; omega)) ?_
  dsimp only [updO]
  refine f_val (.bool true) (by rfl) (fun _ _ => by first | rfl | (simp only [execOp, evF, upd, Nat.reduceEqDiff, reduceIte]; go_simp; done) | (simp only [execOp, evF, upd, Nat.reduceEqDiff, reduceIte]; go_simp; omega)) ?_
  dsimp only [updO]
  refine f_val (.bool true) (by rfl) (fun _ _ => by first | rfl | (simp only [execOp, evF, upd, Nat.reduceEqDiff, reduceIte]; go_simp; done) | (simp only [execOp, evF, upd, Nat.reduceEqDiff, reduceIte]; go_simp; omega)) ?_
  dsimp only [updO]
  refine f_val (.pointer (some ⟨p', 0, none⟩)) (by rfl) (fun _ _ => by first | rfl | (simp only [execOp, evF, upd, Nat.reduceEqDiff, reduceIte]; go_simp; done) | (simp only [execOp, evF, upd, Nat.reduceEqDiff, reduceIte]; go_simp; omega)) ?_
  dsimp only [updO]
  refine f_val (.pointer (some ⟨q', 0, none⟩)) (by rfl) (fun _ _ => by first | rfl | (simp only [execOp, evF, upd, Nat.reduceEqDiff, reduceIte]; go_simp; done) | (simp only [execOp, evF, upd, Nat.reduceEqDiff, reduceIte]; go_simp; omega)) ?_
  dsimp only [updO]
  refine f_enter (fun vv w' => StrP w' vv (idsE pe) ∧ Below w0.heap.size w0 w') 16 #[.pointer (some ⟨p', 0, none⟩)] (by rfl) (run_call_fn _ _ _ _ _ _ _ rfl rfl rfl (enters_of Tryz.func16 (by kernel_rfl) rfl _ _)) ((idsZ p' b' pe w0 (hS1.below hCC) hGp).mono (by rintro e W' ⟨v, rfl, hv, hb⟩; exact ⟨_, rfl, ⟨hv, hb⟩, hCC.trans (hb.mono hCC.size)⟩)) ?_
  rintro vx1 x1 ⟨hvx1, hbx1⟩ hCx1
  dsimp only [updO]
  replace hCC := hCx1
  refine f_enter (fun vv w' => StrP w' vv (idsE pe) ∧ Below x1.heap.size x1 w') 12 #[.pointer (some ⟨q', 0, none⟩)] (by rfl) (run_call_fn _ _ _ _ _ _ _ rfl rfl rfl (enters_of Tryz.func12 (by kernel_rfl) rfl _ _)) ((rIdsZ q' v' l' pe x1 (hR2.below hCC) he2 hGp).mono (by rintro e W' ⟨v, rfl, hv, hb⟩; exact ⟨_, rfl, ⟨hv, hb⟩, hCC.trans (hb.mono hCC.size)⟩)) ?_
  rintro vx2 x2 ⟨hvx2, hbx2⟩ hCx2
  dsimp only [updO]
  replace hCC := hCx2
  refine f_enter (fun vv w' => vv = .bool true ∧ Below x2.heap.size x2 w') 15 #[vx1, vx2] (by rfl) (run_call_fn _ _ _ _ _ _ _ rfl rfl rfl (enters_of Tryz.func15 (by kernel_rfl) rfl _ _)) ((sameSZ (idsE pe) vx1 vx2 x2 (hvx1.keep hbx2) hvx2 (Nat.le_trans (ids_short hGp).1 (by omega))).mono (by rintro e W' ⟨rfl, hb⟩; exact ⟨_, rfl, ⟨rfl, hb⟩, hCC.trans (hb.mono hCC.size)⟩)) ?_
  rintro _ x3 ⟨rfl, hbx3⟩ hCx3
  dsimp only [updO]
  replace hCC := hCx3
  refine f_val (.bool false) (by rfl) (fun _ _ => by first | rfl | (simp only [execOp, evF, upd, Nat.reduceEqDiff, reduceIte]; go_simp; done) | (simp only [execOp, evF, upd, Nat.reduceEqDiff, reduceIte]; go_simp; omega)) ?_
  dsimp only [updO]
  refine f_val (.bool false) (by rfl) (fun _ _ => by first | rfl | (simp only [execOp, evF, upd, Nat.reduceEqDiff, reduceIte]; go_simp; done) | (simp only [execOp, evF, upd, Nat.reduceEqDiff, reduceIte]; go_simp; omega)) ?_
  dsimp only [updO]
  refine f_val (.pointer (some ⟨p', 0, none⟩)) (by rfl) (fun _ _ => by first | rfl | (simp only [execOp, evF, upd, Nat.reduceEqDiff, reduceIte]; go_simp; done) | (simp only [execOp, evF, upd, Nat.reduceEqDiff, reduceIte]; go_simp; omega)) ?_
  dsimp only [updO]
  refine f_val (.pointer (some ⟨q', 0, none⟩)) (by rfl) (fun _ _ => by first | rfl | (simp only [execOp, evF, upd, Nat.reduceEqDiff, reduceIte]; go_simp; done) | (simp only [execOp, evF, upd, Nat.reduceEqDiff, reduceIte]; go_simp; omega)) ?_
  dsimp only [updO]
  refine f_enter (fun vv w' => FacP w' vv pe ∧ Below x3.heap.size x3 w') 18 #[.pointer (some ⟨p', 0, none⟩)] (by rfl) (run_call_fn _ _ _ _ _ _ _ rfl rfl rfl (enters_of Tryz.func18 (by kernel_rfl) rfl _ _)) ((facZ p' b' pe x3 (hS1.below hCC) hGp).mono (by rintro e W' ⟨v, rfl, hv, hb⟩; exact ⟨_, rfl, ⟨hv, hb⟩, hCC.trans (hb.mono hCC.size)⟩)) ?_
  rintro vx4 x4 ⟨hvx4, hbx4⟩ hCx4
  dsimp only [updO]
  replace hCC := hCx4
  refine f_enter (fun vv w' => FacP w' vv pe ∧ Below x4.heap.size x4 w') 19 #[.pointer (some ⟨q', 0, none⟩)] (by rfl) (run_call_fn _ _ _ _ _ _ _ rfl rfl rfl (enters_of Tryz.func19 (by kernel_rfl) rfl _ _)) ((rFacZ q' v' l' pe x4 (hR2.below hCC) he2 hGp).mono (by rintro e W' ⟨v, rfl, hv, hb⟩; exact ⟨_, rfl, ⟨hv, hb⟩, hCC.trans (hb.mono hCC.size)⟩)) ?_
  rintro vx5 x5 ⟨hvx5, hbx5⟩ hCx5
  dsimp only [updO]
  replace hCC := hCx5
  refine f_enter (fun vv w' => vv = .bool true ∧ Below x5.heap.size x5 w') 17 #[vx4, vx5] (by rfl) (run_call_fn _ _ _ _ _ _ _ rfl rfl rfl (enters_of Tryz.func17 (by kernel_rfl) rfl _ _)) ((sameFZ pe vx4 vx5 x5 (hvx4.keep hbx5) hvx5 (Nat.le_trans hGp.2.2 (by omega))).mono (by rintro e W' ⟨rfl, hb⟩; exact ⟨_, rfl, ⟨rfl, hb⟩, hCC.trans (hb.mono hCC.size)⟩)) ?_
  rintro _ x6 ⟨rfl, hbx6⟩ hCx6
  dsimp only [updO]
  replace hCC := hCx6
  refine f_val (.bool false) (by rfl) (fun _ _ => by first | rfl | (simp only [execOp, evF, upd, Nat.reduceEqDiff, reduceIte]; go_simp; done) | (simp only [execOp, evF, upd, Nat.reduceEqDiff, reduceIte]; go_simp; omega)) ?_
  dsimp only [updO]
  refine f_val (.bool false) (by rfl) (fun _ _ => by first | rfl | (simp only [execOp, evF, upd, Nat.reduceEqDiff, reduceIte]; go_simp; done) | (simp only [execOp, evF, upd, Nat.reduceEqDiff, reduceIte]; go_simp; omega)) ?_
  dsimp only [updO]
  refine f_val (.bool false) (by rfl) (fun _ _ => by first | rfl | (simp only [execOp, evF, upd, Nat.reduceEqDiff, reduceIte]; go_simp; done) | (simp only [execOp, evF, upd, Nat.reduceEqDiff, reduceIte]; go_simp; omega)) ?_
  dsimp only [updO]
  refine f_val (.bool false) (by rfl) (fun _ _ => by first | rfl | (simp only [execOp, evF, upd, Nat.reduceEqDiff, reduceIte]; go_simp; done) | (simp only [execOp, evF, upd, Nat.reduceEqDiff, reduceIte]; go_simp; omega)) ?_
  dsimp only [updO]
  refine f_val (.bool false) (by rfl) (fun _ _ => by first | rfl | (simp only [execOp, evF, upd, Nat.reduceEqDiff, reduceIte]; go_simp; done) | (simp only [execOp, evF, upd, Nat.reduceEqDiff, reduceIte]; go_simp; omega)) ?_
  dsimp only [updO]
  refine f_val (.slice (some ⟨gs, 0, none⟩) 2 2) (by rfl) (fun _ _ => by first | rfl | (simp only [execOp, evF, upd, Nat.reduceEqDiff, reduceIte]; go_simp; done) | (simp only [execOp, evF, upd, Nat.reduceEqDiff, reduceIte]; go_simp; omega)) ?_
  dsimp only [updO]
  refine f_val (.int .i64 (kk : Int)) (by rfl) (fun _ _ => by first | rfl | (simp only [execOp, evF, upd, Nat.reduceEqDiff, reduceIte]; go_simp; done) | (simp only [execOp, evF, upd, Nat.reduceEqDiff, reduceIte]; go_simp; omega)) ?_
  dsimp only [updO]
  refine f_val (.int .i64 (jj : Int)) (by rfl) (fun _ _ => by first | rfl | (simp only [execOp, evF, upd, Nat.reduceEqDiff, reduceIte]; go_simp; done) | (simp only [execOp, evF, upd, Nat.reduceEqDiff, reduceIte]; go_simp; omega)) ?_
  dsimp only [updO]
  refine f_val (.pointer (some ⟨gs, jj, none⟩)) (by rfl) (fun _ _ => by first | rfl | (simp only [execOp, evF, upd, Nat.reduceEqDiff, reduceIte]; go_simp; done) | (simp only [execOp, evF, upd, Nat.reduceEqDiff, reduceIte]; go_simp; omega)) ?_
  dsimp only [updO]
  refine f_load_ps (by rfl) _ rfl ⟨gs, jj, none⟩ rfl (some ⟨P1, 0, none⟩) (fun w' hc => (HG w' ((hQ.below hc).mono4 HF)).2.1) ?_
  dsimp only [updO]
  refine f_val (.slice As ss.length cs2) (by rfl) (fun _ _ => by first | rfl | (simp only [execOp, evF, upd, Nat.reduceEqDiff, reduceIte]; go_simp; done) | (simp only [execOp, evF, upd, Nat.reduceEqDiff, reduceIte]; go_simp; omega)) ?_
  dsimp only [updO]
  refine f_val (.slice (some ⟨gt, 0, none⟩) 2 2) (by rfl) (fun _ _ => by first | rfl | (simp only [execOp, evF, upd, Nat.reduceEqDiff, reduceIte]; go_simp; done) | (simp only [execOp, evF, upd, Nat.reduceEqDiff, reduceIte]; go_simp; omega)) ?_
  dsimp only [updO]
  refine f_val (.int .i64 (kk : Int)) (by rfl) (fun _ _ => by first | rfl | (simp only [execOp, evF, upd, Nat.reduceEqDiff, reduceIte]; go_simp; done) | (simp only [execOp, evF, upd, Nat.reduceEqDiff, reduceIte]; go_simp; omega)) ?_
  dsimp only [updO]
  refine f_val (.int .i64 (jj : Int)) (by rfl) (fun _ _ => by first | rfl | (simp only [execOp, evF, upd, Nat.reduceEqDiff, reduceIte]; go_simp; done) | (simp only [execOp, evF, upd, Nat.reduceEqDiff, reduceIte]; go_simp; omega)) ?_
  dsimp only [updO]
  refine f_val (.pointer (some ⟨gt, jj, none⟩)) (by rfl) (fun _ _ => by first | rfl | (simp only [execOp, evF, upd, Nat.reduceEqDiff, reduceIte]; go_simp; done) | (simp only [execOp, evF, upd, Nat.reduceEqDiff, reduceIte]; go_simp; omega)) ?_
  dsimp only [updO]
  refine f_load_pr (by rfl) _ rfl ⟨gt, jj, none⟩ rfl (some ⟨Q1, 0, none⟩) (fun w' hc => (HG w' ((hQ.below hc).mono4 HF)).2.2.2) ?_
  dsimp only [updO]
  refine f_val (.slice As ss.length cs2) (by rfl) (fun _ _ => by first | rfl | (simp only [execOp, evF, upd, Nat.reduceEqDiff, reduceIte]; go_simp; done) | (simp only [execOp, evF, upd, Nat.reduceEqDiff, reduceIte]; go_simp; omega)) ?_
  dsimp only [updO]
  obtain ⟨rv1, rl1, hR1, hrl1⟩ := (hQ.swap.below hCC).ref
  refine f_enter (fun vv w' => StrP w' vv (missK t1 ss) ∧ Below x6.heap.size x6 w') 20 #[.pointer (some ⟨P1, 0, none⟩), .slice As ss.length cs2] (by rfl) (run_call_fn _ _ _ _ _ _ _ rfl rfl rfl (enters_of Tryz.func20 (by kernel_rfl) rfl _ _)) ((missZ P1 B1 t1 ss As cs2 x6 (hQ.swap.below hCC).set G1 (HSS.keep hCC) hsl hcs2 HSX).mono (by rintro e W' ⟨v, rfl, hv, hb⟩; exact ⟨_, rfl, ⟨hv, hb⟩, hCC.trans (hb.mono hCC.size)⟩)) ?_
  rintro vy1 y1 ⟨hvy1, hby1⟩ hCy1
  dsimp only [updO]
  replace hCC := hCy1
  refine f_enter (fun vv w' => StrP w' vv (missK t1 ss) ∧ Below y1.heap.size y1 w') 21 #[.pointer (some ⟨Q1, 0, none⟩), .slice As ss.length cs2] (by rfl) (run_call_fn _ _ _ _ _ _ _ rfl rfl rfl (enters_of Tryz.func21 (by kernel_rfl) rfl _ _)) ((rMissZ Q1 rv1 rl1 t1 ss As cs2 y1 (hR1.below hby1) hrl1 G1 (HSS.keep hCC) hsl).mono (by rintro e W' ⟨v, rfl, hv, hb⟩; exact ⟨_, rfl, ⟨hv, hb⟩, hCC.trans (hb.mono hCC.size)⟩)) ?_
  rintro vy2 y2 ⟨hvy2, hby2⟩ hCy2
  dsimp only [updO]
  replace hCC := hCy2
  refine f_enter (fun vv w' => vv = .bool true ∧ Below y2.heap.size y2 w') 15 #[vy1, vy2] (by rfl) (run_call_fn _ _ _ _ _ _ _ rfl rfl rfl (enters_of Tryz.func15 (by kernel_rfl) rfl _ _)) ((sameSZ (missK t1 ss) vy1 vy2 y2 (hvy1.keep hby2) hvy2 (Nat.le_trans (missK_length_le t1 ss) (by omega))).mono (by rintro e W' ⟨rfl, hb⟩; exact ⟨_, rfl, ⟨rfl, hb⟩, hCC.trans (hb.mono hCC.size)⟩)) ?_
  rintro _ y3 ⟨rfl, hby3⟩ hCy3
  dsimp only [updO]
  replace hCC := hCy3
  refine f_val (.bool false) (by rfl) (fun _ _ => by first | rfl | (simp only [execOp, evF, upd, Nat.reduceEqDiff, reduceIte]; go_simp; done) | (simp only [execOp, evF, upd, Nat.reduceEqDiff, reduceIte]; go_simp; omega)) ?_
  dsimp only [updO]
  refine f_val (.bool false) (by rfl) (fun _ _ => by first | rfl | (simp only [execOp, evF, upd, Nat.reduceEqDiff, reduceIte]; go_simp; done) | (simp only [execOp, evF, upd, Nat.reduceEqDiff, reduceIte]; go_simp; omega)) ?_
  dsimp only [updO]
  refine f_done ?_
  exact ⟨_, _, _, _, _, _, _, _, _, _, _, _, _, _, _, _, _, _, _, _, _, _, _, _, _, _, _, _, _, _, _, _, _, _, _, _, _, _, _, _, rfl, rfl, hCC⟩
set_option maxRecDepth 100000 in
set_option maxHeartbeats 4000000 in
theorem reg31 (a : Act) (hs : a.tmps.size = 320) {W9 w : World} {gs gt kk jj P0 B0 Q0 P1 B1 Q1 : Nat} {F4 : Nat → Prop} {a0 t1 : List Ent} (HG : ∀ W, Stat W9 W F4 → W.cell? ⟨gs, kk, none⟩ = some (.pointer (some ⟨P0, 0, none⟩)) ∧ W.cell? ⟨gs, jj, none⟩ = some (.pointer (some ⟨P1, 0, none⟩)) ∧ W.cell? ⟨gt, kk, none⟩ = some (.pointer (some ⟨Q0, 0, none⟩)) ∧ W.cell? ⟨gt, jj, none⟩ = some (.pointer (some ⟨Q1, 0, none⟩))) (k0 : (0 : Int) ≤ (kk : Int)) (k2 : (kk : Int) < 2) (_j0 : (0 : Int) ≤ (jj : Int)) (_j2 : (jj : Int) < 2) (_q3 : IntKind.i64.wrap (1 - (kk : Int)) = (jj : Int)) (_H6 : Six W9.heap.size P0 B0 Q0 P1 B1 Q1) (HF : Four B0 Q0 B1 Q1 = F4) (hQ : Quad W9 w P0 B0 Q0 P1 B1 Q1 a0 a0 t1 t1) (G0 : Good a0) (hK : ∀ W, Stat W9 W F4 → Konst W) (h8 : a.tmps.getD 8 undef = (.slice (some ⟨gs, 0, none⟩) 2 2)) (h9 : a.tmps.getD 9 undef = (.slice (some ⟨gt, 0, none⟩) 2 2)) (h12 : a.tmps.getD 12 undef = (.int .i64 (kk : Int))) (Q : Exit → Act → World → Prop)
    (K : ∀ (u213 u214 u215 u216 u218 u219 u220 u221 u217 u222 u223 u224 u225 u226 u227 u228 u229 u231 u232 u233 u234 u230 u235 u236 u237 u238 u239 u240 u241 u242 u243 u244 u245 u246 u247 u248 u249 u250 u251 u252 u253 u254 u255 u256 u257 u258 u259 u261 u262 u263 u264 u260 u265 u266 u267 : Value) (w' : World), (u267 = .bool false ∧ Below w.heap.size w w') → Q .normal (putL a [(213, u213), (214, u214), (215, u215), (216, u216), (218, u218), (219, u219), (220, u220), (221, u221), (217, u217), (222, u222), (223, u223), (224, u224), (225, u225), (226, u226), (227, u227), (228, u228), (229, u229), (231, u231), (232, u232), (233, u233), (234, u234), (230, u230), (235, u235), (236, u236), (237, u237), (238, u238), (239, u239), (240, u240), (241, u241), (242, u242), (243, u243), (244, u244), (245, u245), (246, u246), (247, u247), (248, u248), (249, u249), (250, u250), (251, u251), (252, u252), (253, u253), (254, u254), (255, u255), (256, u256), (257, u257), (258, u258), (259, u259), (261, u261), (262, u262), (263, u263), (264, u264), (260, u260), (265, u265), (266, u266), (267, u267)]) w') : Code.wp Tryz.prog (cod 31) Q a w := by
  have hr := (((rep_self hs).know (d := 8) (v := (.slice (some ⟨gs, 0, none⟩) 2 2)) h8).know (d := 9) (v := (.slice (some ⟨gt, 0, none⟩) 2 2)) h9).know (d := 12) (v := (.int .i64 (kk : Int))) h12
  conv => arg 2; whnf
  refine wp_region_F 320 _ [4, 5, 6, 7, 17, 18, 19, 20, 47, 48, 49, 50] (fun w' => Below w.heap.size w w') (fun w' => Below w.heap.size w w') (fun f' w' => ∃ u213 u214 u215 u216 u218 u219 u220 u221 u217 u222 u223 u224 u225 u226 u227 u228 u229 u231 u232 u233 u234 u230 u235 u236 u237 u238 u239 u240 u241 u242 u243 u244 u245 u246 u247 u248 u249 u250 u251 u252 u253 u254 u255 u256 u257 u258 u259 u261 u262 u263 u264 u260 u265 u266 u267 : Value, f' = updL (upd (upd (upd (fun t => a.tmps.getD t undef) 8 (.slice (some ⟨gs, 0, none⟩) 2 2)) 9 (.slice (some ⟨gt, 0, none⟩) 2 2)) 12 (.int .i64 (kk : Int))) [(213, u213), (214, u214), (215, u215), (216, u216), (218, u218), (219, u219), (220, u220), (221, u221), (217, u217), (222, u222), (223, u223), (224, u224), (225, u225), (226, u226), (227, u227), (228, u228), (229, u229), (231, u231), (232, u232), (233, u233), (234, u234), (230, u230), (235, u235), (236, u236), (237, u237), (238, u238), (239, u239), (240, u240), (241, u241), (242, u242), (243, u243), (244, u244), (245, u245), (246, u246), (247, u247), (248, u248), (249, u249), (250, u250), (251, u251), (252, u252), (253, u253), (254, u254), (255, u255), (256, u256), (257, u257), (258, u258), (259, u259), (261, u261), (262, u262), (263, u263), (264, u264), (260, u260), (265, u265), (266, u266), (267, u267)] ∧ (u267 = .bool false ∧ Below w.heap.size w w')) [true, true, true, true, true, true, true, true, false, false, false, true, true, true, true, true, true, true, true, true, true, false, false, false, true, true, true, true, true, true, true, true, true, true, true, true, true, true, true, true, true, true, true, true, true, true, true, true, true, true, true, false, false, true, true] [0, 1, 2, 3, 5, 6, 7, 8, 4, 9, 10, 11, 12, 13, 14, 15, 16, 18, 19, 20, 21, 17, 22, 23, 24, 25, 26, 27, 28, 29, 30, 31, 32, 33, 34, 35, 36, 37, 38, 39, 40, 41, 42, 43, 44, 45, 46, 48, 49, 50, 51, 47, 52, 53, 54] (by kernel_rfl) (by kernel_rfl) (by kernel_rfl) (by kernel_rfl) hr ((Below.drew (Below.refl _ _))) ((Below.drew (Below.refl _ _))) ?_ ?_
  rotate_left
  · rintro a' f' w' hr' hd ⟨u213, u214, u215, u216, u218, u219, u220, u221, u217, u222, u223, u224, u225, u226, u227, u228, u229, u231, u232, u233, u234, u230, u235, u236, u237, u238, u239, u240, u241, u242, u243, u244, u245, u246, u247, u248, u249, u250, u251, u252, u253, u254, u255, u256, u257, u258, u259, u261, u262, u263, u264, u260, u265, u266, u267, rfl, hres⟩
    obtain rfl : a' = putL a [(213, u213), (214, u214), (215, u215), (216, u216), (218, u218), (219, u219), (220, u220), (221, u221), (217, u217), (222, u222), (223, u223), (224, u224), (225, u225), (226, u226), (227, u227), (228, u228), (229, u229), (231, u231), (232, u232), (233, u233), (234, u234), (230, u230), (235, u235), (236, u236), (237, u237), (238, u238), (239, u239), (240, u240), (241, u241), (242, u242), (243, u243), (244, u244), (245, u245), (246, u246), (247, u247), (248, u248), (249, u249), (250, u250), (251, u251), (252, u252), (253, u253), (254, u254), (255, u255), (256, u256), (257, u257), (258, u258), (259, u259), (261, u261), (262, u262), (263, u263), (264, u264), (260, u260), (265, u265), (266, u266), (267, u267)] := hr'.ext (hr.putL [(213, u213), (214, u214), (215, u215), (216, u216), (218, u218), (219, u219), (220, u220), (221, u221), (217, u217), (222, u222), (223, u223), (224, u224), (225, u225), (226, u226), (227, u227), (228, u228), (229, u229), (231, u231), (232, u232), (233, u233), (234, u234), (230, u230), (235, u235), (236, u236), (237, u237), (238, u238), (239, u239), (240, u240), (241, u241), (242, u242), (243, u243), (244, u244), (245, u245), (246, u246), (247, u247), (248, u248), (249, u249), (250, u250), (251, u251), (252, u252), (253, u253), (254, u254), (255, u255), (256, u256), (257, u257), (258, u258), (259, u259), (261, u261), (262, u262), (263, u263), (264, u264), (260, u260), (265, u265), (266, u266), (267, u267)] (by rfl)) (hd.trans (putL_defers _ _).symm)
    exact K u213 u214 u215 u216 u218 u219 u220 u221 u217 u222 u223 u224 u225 u226 u227 u228 u229 u231 u232 u233 u234 u230 u235 u236 u237 u238 u239 u240 u241 u242 u243 u244 u245 u246 u247 u248 u249 u250 u251 u252 u253 u254 u255 u256 u257 u258 u259 u261 u262 u263 u264 u260 u265 u266 u267 w' hres
  intro w0 hC0 hD0
  clear K hr hs h8 h9 h12
  dsimp only [List.foldl, swapAt]
  have hCC := hC0
  obtain ⟨rv, rl, hR, hrl⟩ := hQ.ref
  have hS := hQ.set
  obtain ⟨AR, cR, hrv, hcR, hLR⟩ := hR.reads
  have hrc := hR.cell
  rw [hrv] at hrc
  have hln : rl.length = a0.length := by rw [← hrl, esR_length]
  rw [hln] at hrc
  refine f_val (.slice (some ⟨gs, 0, none⟩) 2 2) (by rfl) (fun _ _ => by first | rfl | (simp only [execOp, evF, upd, Nat.reduceEqDiff, reduceIte]; go_simp; done) | (simp only [execOp, evF, upd, Nat.reduceEqDiff, reduceIte]; go_simp; omega)) ?_
  dsimp only [updO]
  refine f_val (.int .i64 (kk : Int)) (by rfl) (fun _ _ => by first | rfl | (simp only [execOp, evF, upd, Nat.reduceEqDiff, reduceIte]; go_simp; done) | (simp only [execOp, evF, upd, Nat.reduceEqDiff, reduceIte]; go_simp; omega)) ?_
  dsimp only [updO]
  refine f_val (.pointer (some ⟨gs, kk, none⟩)) (by rfl) (fun _ _ => by first | rfl | (simp only [execOp, evF, upd, Nat.reduceEqDiff, reduceIte]; go_simp; done) | (simp only [execOp, evF, upd, Nat.reduceEqDiff, reduceIte]; go_simp; omega)) ?_
  dsimp only [updO]
  refine f_load_ps (by rfl) _ rfl ⟨gs, kk, none⟩ rfl (some ⟨P0, 0, none⟩) (fun w' hc => (HG w' ((hQ.below hc).mono4 HF)).1) ?_
  dsimp only [updO]
  refine f_val (.slice (some ⟨gt, 0, none⟩) 2 2) (by rfl) (fun _ _ => by first | rfl | (simp only [execOp, evF, upd, Nat.reduceEqDiff, reduceIte]; go_simp; done) | (simp only [execOp, evF, upd, Nat.reduceEqDiff, reduceIte]; go_simp; omega)) ?_
  dsimp only [updO]
  refine f_val (.int .i64 (kk : Int)) (by rfl) (fun _ _ => by first | rfl | (simp only [execOp, evF, upd, Nat.reduceEqDiff, reduceIte]; go_simp; done) | (simp only [execOp, evF, upd, Nat.reduceEqDiff, reduceIte]; go_simp; omega)) ?_
  dsimp only [updO]
  refine f_val (.pointer (some ⟨gt, kk, none⟩)) (by rfl) (fun _ _ => by first | rfl | (simp only [execOp, evF, upd, Nat.reduceEqDiff, reduceIte]; go_simp; done) | (simp only [execOp, evF, upd, Nat.reduceEqDiff, reduceIte]; go_simp; omega)) ?_
  dsimp only [updO]
  refine f_load_pr (by rfl) _ rfl ⟨gt, kk, none⟩ rfl (some ⟨Q0, 0, none⟩) (fun w' hc => (HG w' ((hQ.below hc).mono4 HF)).2.2.1) ?_
  dsimp only [updO]
  refine f_enter (fun vv w' => StrP w' vv (idsE a0) ∧ Below w0.heap.size w0 w') 16 #[.pointer (some ⟨P0, 0, none⟩)] (by rfl) (run_call_fn _ _ _ _ _ _ _ rfl rfl rfl (enters_of Tryz.func16 (by kernel_rfl) rfl _ _)) ((idsZ P0 B0 a0 w0 (hS.below hCC) G0).mono (by rintro e W' ⟨v, rfl, hv, hb⟩; exact ⟨_, rfl, ⟨hv, hb⟩, hCC.trans (hb.mono hCC.size)⟩)) ?_
  rintro vx1 x1 ⟨hvx1, hbx1⟩ hCx1
  dsimp only [updO]
  replace hCC := hCx1
  refine f_enter (fun vv w' => StrP w' vv (idsE a0) ∧ Below x1.heap.size x1 w') 12 #[.pointer (some ⟨Q0, 0, none⟩)] (by rfl) (run_call_fn _ _ _ _ _ _ _ rfl rfl rfl (enters_of Tryz.func12 (by kernel_rfl) rfl _ _)) ((rIdsZ Q0 rv rl a0 x1 (hR.below hCC) hrl G0).mono (by rintro e W' ⟨v, rfl, hv, hb⟩; exact ⟨_, rfl, ⟨hv, hb⟩, hCC.trans (hb.mono hCC.size)⟩)) ?_
  rintro vx2 x2 ⟨hvx2, hbx2⟩ hCx2
  dsimp only [updO]
  replace hCC := hCx2
  refine f_enter (fun vv w' => vv = .bool true ∧ Below x2.heap.size x2 w') 15 #[vx1, vx2] (by rfl) (run_call_fn _ _ _ _ _ _ _ rfl rfl rfl (enters_of Tryz.func15 (by kernel_rfl) rfl _ _)) ((sameSZ (idsE a0) vx1 vx2 x2 (hvx1.keep hbx2) hvx2 (Nat.le_trans (ids_short G0).1 (by omega))).mono (by rintro e W' ⟨rfl, hb⟩; exact ⟨_, rfl, ⟨rfl, hb⟩, hCC.trans (hb.mono hCC.size)⟩)) ?_
  rintro _ x3 ⟨rfl, hbx3⟩ hCx3
  dsimp only [updO]
  replace hCC := hCx3
  refine f_val (.bool false) (by rfl) (fun _ _ => by first | rfl | (simp only [execOp, evF, upd, Nat.reduceEqDiff, reduceIte]; go_simp; done) | (simp only [execOp, evF, upd, Nat.reduceEqDiff, reduceIte]; go_simp; omega)) ?_
  dsimp only [updO]
  refine f_val (.bool false) (by rfl) (fun _ _ => by first | rfl | (simp only [execOp, evF, upd, Nat.reduceEqDiff, reduceIte]; go_simp; done) | (simp only [execOp, evF, upd, Nat.reduceEqDiff, reduceIte]; go_simp; omega)) ?_
  dsimp only [updO]
  refine f_val (.slice (some ⟨gs, 0, none⟩) 2 2) (by rfl) (fun _ _ => by first | rfl | (simp only [execOp, evF, upd, Nat.reduceEqDiff, reduceIte]; go_simp; done) | (simp only [execOp, evF, upd, Nat.reduceEqDiff, reduceIte]; go_simp; omega)) ?_
  dsimp only [updO]
  refine f_val (.int .i64 (kk : Int)) (by rfl) (fun _ _ => by first | rfl | (simp only [execOp, evF, upd, Nat.reduceEqDiff, reduceIte]; go_simp; done) | (simp only [execOp, evF, upd, Nat.reduceEqDiff, reduceIte]; go_simp; omega)) ?_
  dsimp only [updO]
  refine f_val (.pointer (some ⟨gs, kk, none⟩)) (by rfl) (fun _ _ => by first | rfl | (simp only [execOp, evF, upd, Nat.reduceEqDiff, reduceIte]; go_simp; done) | (simp only [execOp, evF, upd, Nat.reduceEqDiff, reduceIte]; go_simp; omega)) ?_
  dsimp only [updO]
  refine f_load_ps (by rfl) _ rfl ⟨gs, kk, none⟩ rfl (some ⟨P0, 0, none⟩) (fun w' hc => (HG w' ((hQ.below hc).mono4 HF)).1) ?_
  dsimp only [updO]
  refine f_val (.slice (some ⟨gt, 0, none⟩) 2 2) (by rfl) (fun _ _ => by first | rfl | (simp only [execOp, evF, upd, Nat.reduceEqDiff, reduceIte]; go_simp; done) | (simp only [execOp, evF, upd, Nat.reduceEqDiff, reduceIte]; go_simp; omega)) ?_
  dsimp only [updO]
  refine f_val (.int .i64 (kk : Int)) (by rfl) (fun _ _ => by first | rfl | (simp only [execOp, evF, upd, Nat.reduceEqDiff, reduceIte]; go_simp; done) | (simp only [execOp, evF, upd, Nat.reduceEqDiff, reduceIte]; go_simp; omega)) ?_
  dsimp only [updO]
  refine f_val (.pointer (some ⟨gt, kk, none⟩)) (by rfl) (fun _ _ => by first | rfl | (simp only [execOp, evF, upd, Nat.reduceEqDiff, reduceIte]; go_simp; done) | (simp only [execOp, evF, upd, Nat.reduceEqDiff, reduceIte]; go_simp; omega)) ?_
  dsimp only [updO]
  refine f_load_pr (by rfl) _ rfl ⟨gt, kk, none⟩ rfl (some ⟨Q0, 0, none⟩) (fun w' hc => (HG w' ((hQ.below hc).mono4 HF)).2.2.1) ?_
  dsimp only [updO]
  refine f_enter (fun vv w' => FacP w' vv a0 ∧ Below x3.heap.size x3 w') 18 #[.pointer (some ⟨P0, 0, none⟩)] (by rfl) (run_call_fn _ _ _ _ _ _ _ rfl rfl rfl (enters_of Tryz.func18 (by kernel_rfl) rfl _ _)) ((facZ P0 B0 a0 x3 (hS.below hCC) G0).mono (by rintro e W' ⟨v, rfl, hv, hb⟩; exact ⟨_, rfl, ⟨hv, hb⟩, hCC.trans (hb.mono hCC.size)⟩)) ?_
  rintro vx4 x4 ⟨hvx4, hbx4⟩ hCx4
  dsimp only [updO]
  replace hCC := hCx4
  refine f_enter (fun vv w' => FacP w' vv a0 ∧ Below x4.heap.size x4 w') 19 #[.pointer (some ⟨Q0, 0, none⟩)] (by rfl) (run_call_fn _ _ _ _ _ _ _ rfl rfl rfl (enters_of Tryz.func19 (by kernel_rfl) rfl _ _)) ((rFacZ Q0 rv rl a0 x4 (hR.below hCC) hrl G0).mono (by rintro e W' ⟨v, rfl, hv, hb⟩; exact ⟨_, rfl, ⟨hv, hb⟩, hCC.trans (hb.mono hCC.size)⟩)) ?_
  rintro vx5 x5 ⟨hvx5, hbx5⟩ hCx5
  dsimp only [updO]
  replace hCC := hCx5
  refine f_enter (fun vv w' => vv = .bool true ∧ Below x5.heap.size x5 w') 17 #[vx4, vx5] (by rfl) (run_call_fn _ _ _ _ _ _ _ rfl rfl rfl (enters_of Tryz.func17 (by kernel_rfl) rfl _ _)) ((sameFZ a0 vx4 vx5 x5 (hvx4.keep hbx5) hvx5 (Nat.le_trans G0.2.2 (by omega))).mono (by rintro e W' ⟨rfl, hb⟩; exact ⟨_, rfl, ⟨rfl, hb⟩, hCC.trans (hb.mono hCC.size)⟩)) ?_
  rintro _ x6 ⟨rfl, hbx6⟩ hCx6
  dsimp only [updO]
  replace hCC := hCx6
  refine f_val (.bool false) (by rfl) (fun _ _ => by first | rfl | (simp only [execOp, evF, upd, Nat.reduceEqDiff, reduceIte]; go_simp; done) | (simp only [execOp, evF, upd, Nat.reduceEqDiff, reduceIte]; go_simp; omega)) ?_
  dsimp only [updO]
  refine f_val (.bool false) (by rfl) (fun _ _ => by first | rfl | (simp only [execOp, evF, upd, Nat.reduceEqDiff, reduceIte]; go_simp; done) | (simp only [execOp, evF, upd, Nat.reduceEqDiff, reduceIte]; go_simp; omega)) ?_
  dsimp only [updO]
  refine f_val (.bool false) (by rfl) (fun _ _ => by first | rfl | (simp only [execOp, evF, upd, Nat.reduceEqDiff, reduceIte]; go_simp; done) | (simp only [execOp, evF, upd, Nat.reduceEqDiff, reduceIte]; go_simp; omega)) ?_
  dsimp only [updO]
  refine f_val (.slice (some ⟨gs, 0, none⟩) 2 2) (by rfl) (fun _ _ => by first | rfl | (simp only [execOp, evF, upd, Nat.reduceEqDiff, reduceIte]; go_simp; done) | (simp only [execOp, evF, upd, Nat.reduceEqDiff, reduceIte]; go_simp; omega)) ?_
  dsimp only [updO]
  refine f_val (.int .i64 (kk : Int)) (by rfl) (fun _ _ => by first | rfl | (simp only [execOp, evF, upd, Nat.reduceEqDiff, reduceIte]; go_simp; done) | (simp only [execOp, evF, upd, Nat.reduceEqDiff, reduceIte]; go_simp; omega)) ?_
  dsimp only [updO]
  refine f_val (.pointer (some ⟨gs, kk, none⟩)) (by rfl) (fun _ _ => by first | rfl | (simp only [execOp, evF, upd, Nat.reduceEqDiff, reduceIte]; go_simp; done) | (simp only [execOp, evF, upd, Nat.reduceEqDiff, reduceIte]; go_simp; omega)) ?_
  dsimp only [updO]
  refine f_load_ps (by rfl) _ rfl ⟨gs, kk, none⟩ rfl (some ⟨P0, 0, none⟩) (fun w' hc => (HG w' ((hQ.below hc).mono4 HF)).1) ?_
  dsimp only [updO]
  refine f_call 22 #[.pointer (some ⟨P0, 0, none⟩)] (.int .i64 (a0.length : Int)) (by rfl) (fun _ => run_call_fn _ _ _ _ _ _ _ rfl rfl rfl (enters_of Tryz.func22 (by kernel_rfl) rfl _ _)) (fun w' hc => (Len_calls P0 B0 a0 w' (hS.below hc)).mono fun e w2 h => ⟨h.1, h.2⟩) ?_
  dsimp only [updO]
  refine f_val (.slice (some ⟨gt, 0, none⟩) 2 2) (by rfl) (fun _ _ => by first | rfl | (simp only [execOp, evF, upd, Nat.reduceEqDiff, reduceIte]; go_simp; done) | (simp only [execOp, evF, upd, Nat.reduceEqDiff, reduceIte]; go_simp; omega)) ?_
  dsimp only [updO]
  refine f_val (.int .i64 (kk : Int)) (by rfl) (fun _ _ => by first | rfl | (simp only [execOp, evF, upd, Nat.reduceEqDiff, reduceIte]; go_simp; done) | (simp only [execOp, evF, upd, Nat.reduceEqDiff, reduceIte]; go_simp; omega)) ?_
  dsimp only [updO]
  refine f_val (.pointer (some ⟨gt, kk, none⟩)) (by rfl) (fun _ _ => by first | rfl | (simp only [execOp, evF, upd, Nat.reduceEqDiff, reduceIte]; go_simp; done) | (simp only [execOp, evF, upd, Nat.reduceEqDiff, reduceIte]; go_simp; omega)) ?_
  dsimp only [updO]
  refine f_load_pr (by rfl) _ rfl ⟨gt, kk, none⟩ rfl (some ⟨Q0, 0, none⟩) (fun w' hc => (HG w' ((hQ.below hc).mono4 HF)).2.2.1) ?_
  dsimp only [updO]
  refine f_val (.pointer (some ⟨Q0, 0, none⟩)) (by rfl) (fun _ _ => by first | rfl | (simp only [execOp, evF, upd, Nat.reduceEqDiff, reduceIte]; go_simp; done) | (simp only [execOp, evF, upd, Nat.reduceEqDiff, reduceIte]; go_simp; omega)) ?_
  dsimp only [updO]
  refine f_val (.pointer (some ⟨Q0, 0, none⟩)) (by rfl) (fun _ _ => by first | rfl | (simp only [execOp, evF, upd, Nat.reduceEqDiff, reduceIte]; go_simp; done) | (simp only [execOp, evF, upd, Nat.reduceEqDiff, reduceIte]; go_simp; omega)) ?_
  dsimp only [updO]
  refine f_load_sl (by rfl) _ rfl ⟨Q0, 0, none⟩ rfl AR a0.length cR (fun w' hc => (hc.cell (p := ⟨Q0, 0, none⟩) (lt_of_cell hrc)).trans hrc) ?_
  dsimp only [updO]
  refine f_len (by rfl) _ _ rfl _ Tryz.underlying31 AR a0.length cR rfl ?_
  dsimp only [updO]
  refine f_val (.bool false) (by rfl) (fun _ _ => by first | rfl | (simp only [execOp, evF, upd, Nat.reduceEqDiff, reduceIte]; go_simp; done) | (simp only [execOp, evF, upd, Nat.reduceEqDiff, reduceIte]; go_simp; omega)) ?_
  dsimp only [updO]
  refine f_val (.bool false) (by rfl) (fun _ _ => by first | rfl | (simp only [execOp, evF, upd, Nat.reduceEqDiff, reduceIte]; go_simp; done) | (simp only [execOp, evF, upd, Nat.reduceEqDiff, reduceIte]; go_simp; omega)) ?_
  dsimp only [updO]
  refine f_val (.bool false) (by rfl) (fun _ _ => by first | rfl | (simp only [execOp, evF, upd, Nat.reduceEqDiff, reduceIte]; go_simp; done) | (simp only [execOp, evF, upd, Nat.reduceEqDiff, reduceIte]; go_simp; omega)) ?_
  dsimp only [updO]
  refine f_val (.slice (some ⟨gs, 0, none⟩) 2 2) (by rfl) (fun _ _ => by first | rfl | (simp only [execOp, evF, upd, Nat.reduceEqDiff, reduceIte]; go_simp; done) | (simp only [execOp, evF, upd, Nat.reduceEqDiff, reduceIte]; go_simp; omega)) ?_
  dsimp only [updO]
  refine f_val (.int .i64 (kk : Int)) (by rfl) (fun _ _ => by first | rfl | (simp only [execOp, evF, upd, Nat.reduceEqDiff, reduceIte]; go_simp; done) | (simp only [execOp, evF, upd, Nat.reduceEqDiff, reduceIte]; go_simp; omega)) ?_
  dsimp only [updO]
  refine f_val (.pointer (some ⟨gs, kk, none⟩)) (by rfl) (fun _ _ => by first | rfl | (simp only [execOp, evF, upd, Nat.reduceEqDiff, reduceIte]; go_simp; done) | (simp only [execOp, evF, upd, Nat.reduceEqDiff, reduceIte]; go_simp; omega)) ?_
  dsimp only [updO]
  refine f_load_ps (by rfl) _ rfl ⟨gs, kk, none⟩ rfl (some ⟨P0, 0, none⟩) (fun w' hc => (HG w' ((hQ.below hc).mono4 HF)).1) ?_
  dsimp only [updO]
  refine f_val (.slice (some ⟨gt, 0, none⟩) 2 2) (by rfl) (fun _ _ => by first | rfl | (simp only [execOp, evF, upd, Nat.reduceEqDiff, reduceIte]; go_simp; done) | (simp only [execOp, evF, upd, Nat.reduceEqDiff, reduceIte]; go_simp; omega)) ?_
  dsimp only [updO]
  refine f_val (.int .i64 (kk : Int)) (by rfl) (fun _ _ => by first | rfl | (simp only [execOp, evF, upd, Nat.reduceEqDiff, reduceIte]; go_simp; done) | (simp only [execOp, evF, upd, Nat.reduceEqDiff, reduceIte]; go_simp; omega)) ?_
  dsimp only [updO]
  refine f_val (.pointer (some ⟨gt, kk, none⟩)) (by rfl) (fun _ _ => by first | rfl | (simp only [execOp, evF, upd, Nat.reduceEqDiff, reduceIte]; go_simp; done) | (simp only [execOp, evF, upd, Nat.reduceEqDiff, reduceIte]; go_simp; omega)) ?_
  dsimp only [updO]
  refine f_load_pr (by rfl) _ rfl ⟨gt, kk, none⟩ rfl (some ⟨Q0, 0, none⟩) (fun w' hc => (HG w' ((hQ.below hc).mono4 HF)).2.2.1) ?_
  dsimp only [updO]
  refine f_enter (fun vv w' => vv = .string ⟨(rootF shaF (idsE a0)).toArray⟩ ∧ Below x6.heap.size x6 w') 23 #[.pointer (some ⟨P0, 0, none⟩)] (by rfl) (run_call_fn _ _ _ _ _ _ _ rfl rfl rfl (enters_of Tryz.func23 (by kernel_rfl) rfl _ _)) ((RootSet P0 B0 a0 x6 (hK _ ((hQ.below hCC).mono4 HF)) (hS.below hCC) G0).mono (by rintro e W' ⟨rfl, hb⟩; exact ⟨_, rfl, ⟨rfl, hb⟩, hCC.trans (hb.mono hCC.size)⟩)) ?_
  rintro _ x7 ⟨rfl, hbx7⟩ hCx7
  dsimp only [updO]
  replace hCC := hCx7
  refine f_enter (fun vv w' => vv = .string ⟨(rootF shaF (idsE a0)).toArray⟩ ∧ Below x7.heap.size x7 w') 24 #[.pointer (some ⟨Q0, 0, none⟩)] (by rfl) (run_call_fn _ _ _ _ _ _ _ rfl rfl rfl (enters_of Tryz.func24 (by kernel_rfl) rfl _ _)) ((rootZ Q0 rv rl a0 x7 (hR.below hCC) hrl G0).mono (by rintro e W' ⟨rfl, hb⟩; exact ⟨_, rfl, ⟨rfl, hb⟩, hCC.trans (hb.mono hCC.size)⟩)) ?_
  rintro _ x8 ⟨rfl, hbx8⟩ hCx8
  dsimp only [updO]
  replace hCC := hCx8
  generalize (⟨(rootF shaF (idsE a0)).toArray⟩ : ByteArray) = rt at *
  refine f_val (.bool false) (by rfl) (fun _ _ => by first | rfl | (simp only [execOp, evF, upd, Nat.reduceEqDiff, reduceIte]; go_simp; done) | (simp only [execOp, evF, upd, Nat.reduceEqDiff, reduceIte]; go_simp; omega)) ?_
  dsimp only [updO]
  refine f_val (.bool false) (by rfl) (fun _ _ => by first | rfl | (simp only [execOp, evF, upd, Nat.reduceEqDiff, reduceIte]; go_simp; done) | (simp only [execOp, evF, upd, Nat.reduceEqDiff, reduceIte]; go_simp; omega)) ?_
  dsimp only [updO]
  refine f_done ?_
  exact ⟨_, _, _, _, _, _, _, _, _, _, _, _, _, _, _, _, _, _, _, _, _, _, _, _, _, _, _, _, _, _, _, _, _, _, _, _, _, _, _, _, _, _, _, _, _, _, _, _, _, _, _, _, _, _, _, rfl, rfl, hCC⟩
set_option maxRecDepth 100000 in
set_option maxHeartbeats 4000000 in
theorem reg36 (a : Act) (hs : a.tmps.size = 320) {W9 w : World} {gs gt kk jj P0 B0 Q0 P1 B1 Q1 : Nat} {F4 : Nat → Prop} {a0 t1 : List Ent} (HG : ∀ W, Stat W9 W F4 → W.cell? ⟨gs, kk, none⟩ = some (.pointer (some ⟨P0, 0, none⟩)) ∧ W.cell? ⟨gs, jj, none⟩ = some (.pointer (some ⟨P1, 0, none⟩)) ∧ W.cell? ⟨gt, kk, none⟩ = some (.pointer (some ⟨Q0, 0, none⟩)) ∧ W.cell? ⟨gt, jj, none⟩ = some (.pointer (some ⟨Q1, 0, none⟩))) (k0 : (0 : Int) ≤ (kk : Int)) (k2 : (kk : Int) < 2) (HF : Four B0 Q0 B1 Q1 = F4) (hQ : Quad W9 w P0 B0 Q0 P1 B1 Q1 a0 a0 t1 t1) {ids : List Bs} {gI oI ci n : Nat} {k : Bs} (n0 : (0 : Int) ≤ (n : Int)) (n1 : (n : Int) < (ids.length : Int)) (hk : w.cell? ⟨gI, oI + n, none⟩ = some (.string ⟨k.toArray⟩)) {fv : Nat → Int} {ft : ByteArray} {hb : Bool} (HGt : ∀ W, Below w.heap.size w W → Calls Tryz.prog 25 #[.pointer (some ⟨P0, 0, none⟩), .string ⟨k.toArray⟩] W fun e W' => e = .returned (.tuple #[.agg (factC fv ft), .bool hb]) ∧ Below W.heap.size W W') (h8 : a.tmps.getD 8 undef = (.slice (some ⟨gs, 0, none⟩) 2 2)) (h12 : a.tmps.getD 12 undef = (.int .i64 (kk : Int))) (h2 : a.tmps.getD 2 undef = (.slice (some ⟨gI, oI, none⟩) ids.length ci)) (h23 : a.tmps.getD 23 undef = (.int .i64 (n : Int))) (Q : Exit → Act → World → Prop)
    (K : ∀ (u275 u276 u277 u278 u279 u280 u281 u282 u283 u274 u284 u285 u24 u25 : Value) (w' : World), (∃ fb : Nat, u24 = .pointer (some ⟨fb, 0, none⟩) ∧ u25 = .bool hb ∧ w'.heap[fb]? = some (.cells (factC fv ft) 40 (0, 0)) ∧ Below w.heap.size w w') → Q .normal (putL a [(275, u275), (276, u276), (277, u277), (278, u278), (279, u279), (280, u280), (281, u281), (282, u282), (283, u283), (274, u274), (284, u284), (285, u285), (24, u24), (25, u25)]) w') : Code.wp Tryz.prog (cod 36) Q a w := by
  have hr := ((((rep_self hs).know (d := 8) (v := (.slice (some ⟨gs, 0, none⟩) 2 2)) h8).know (d := 12) (v := (.int .i64 (kk : Int))) h12).know (d := 2) (v := (.slice (some ⟨gI, oI, none⟩) ids.length ci)) h2).know (d := 23) (v := (.int .i64 (n : Int))) h23
  conv => arg 2; whnf
  refine wp_region_two 320 _ (fun w' => Below w.heap.size w w') (fun w' => Below w.heap.size w w') (fun f' w' => ∃ u275 u276 u277 u278 u279 u280 u281 u282 u283 u274 u284 u285 u24 u25 : Value, f' = updL (upd (upd (upd (upd (fun t => a.tmps.getD t undef) 8 (.slice (some ⟨gs, 0, none⟩) 2 2)) 12 (.int .i64 (kk : Int))) 2 (.slice (some ⟨gI, oI, none⟩) ids.length ci)) 23 (.int .i64 (n : Int))) [(275, u275), (276, u276), (277, u277), (278, u278), (279, u279), (280, u280), (281, u281), (282, u282), (283, u283), (274, u274), (284, u284), (285, u285), (24, u24), (25, u25)] ∧ (∃ fb : Nat, u24 = .pointer (some ⟨fb, 0, none⟩) ∧ u25 = .bool hb ∧ w'.heap[fb]? = some (.cells (factC fv ft) 40 (0, 0)) ∧ Below w.heap.size w w')) (fun l => l.take 8) (fun l => (l.drop 9)) (fun l => (l.drop 8).take 4 ++ l.drop 13) [true, true, true, true, true, true, true, true] [true, true, true, false, false, true] [false, true, true, true, false, true] [0, 1, 2, 3, 4, 5, 6, 7] [9, 10, 11, 12, 13, 14] [8, 9, 10, 11, 13, 14] 6 #[true, true, true, true, true, true, true, true, false, false, false, false, false, false, false] 8 12 _ _ (by kernel_rfl) (by kernel_rfl) (by kernel_rfl) (by kernel_rfl) (by kernel_rfl) (by kernel_rfl) (by rfl) (by rfl) (by kernel_rfl) (by kernel_rfl) (by kernel_rfl) (by kernel_rfl) (by kernel_rfl) (by kernel_rfl) (by kernel_rfl) (by kernel_rfl) (by kernel_rfl) (by kernel_rfl) (by kernel_rfl) (by kernel_rfl) (by kernel_rfl) hr ((Below.drew (Below.refl _ _))) ((Below.drew (Below.refl _ _))) ?_ ?_
  rotate_left
  · rintro a' f' w' hr' hd ⟨u275, u276, u277, u278, u279, u280, u281, u282, u283, u274, u284, u285, u24, u25, rfl, hres⟩
    obtain rfl : a' = putL a [(275, u275), (276, u276), (277, u277), (278, u278), (279, u279), (280, u280), (281, u281), (282, u282), (283, u283), (274, u274), (284, u284), (285, u285), (24, u24), (25, u25)] := hr'.ext (hr.putL [(275, u275), (276, u276), (277, u277), (278, u278), (279, u279), (280, u280), (281, u281), (282, u282), (283, u283), (274, u274), (284, u284), (285, u285), (24, u24), (25, u25)] (by rfl)) (hd.trans (putL_defers _ _).symm)
    exact K u275 u276 u277 u278 u279 u280 u281 u282 u283 u274 u284 u285 u24 u25 w' hres
  intro w0 hC0 hD0
  clear K hr hs h8 h12 h2 h23
  dsimp only [List.take, List.drop]
  refine f_val (.slice (some ⟨gs, 0, none⟩) 2 2) (by rfl) (fun _ _ => by first | rfl | (simp only [execOp, evF, upd, Nat.reduceEqDiff, reduceIte]; go_simp; done) | (simp only [execOp, evF, upd, Nat.reduceEqDiff, reduceIte]; go_simp; omega)) ?_
  dsimp only [updO]
  refine f_val (.int .i64 (kk : Int)) (by rfl) (fun _ _ => by first | rfl | (simp only [execOp, evF, upd, Nat.reduceEqDiff, reduceIte]; go_simp; done) | (simp only [execOp, evF, upd, Nat.reduceEqDiff, reduceIte]; go_simp; omega)) ?_
  dsimp only [updO]
  refine f_val (.pointer (some ⟨gs, kk, none⟩)) (by rfl) (fun _ _ => by first | rfl | (simp only [execOp, evF, upd, Nat.reduceEqDiff, reduceIte]; go_simp; done) | (simp only [execOp, evF, upd, Nat.reduceEqDiff, reduceIte]; go_simp; omega)) ?_
  dsimp only [updO]
  refine f_load_ps (by rfl) _ rfl ⟨gs, kk, none⟩ rfl (some ⟨P0, 0, none⟩) (fun w' hc => (HG w' ((hQ.below hc).mono4 HF)).1) ?_
  dsimp only [updO]
  refine f_val (.slice (some ⟨gI, oI, none⟩) ids.length ci) (by rfl) (fun _ _ => by first | rfl | (simp only [execOp, evF, upd, Nat.reduceEqDiff, reduceIte]; go_simp; done) | (simp only [execOp, evF, upd, Nat.reduceEqDiff, reduceIte]; go_simp; omega)) ?_
  dsimp only [updO]
  refine f_val (.int .i64 (n : Int)) (by rfl) (fun _ _ => by first | rfl | (simp only [execOp, evF, upd, Nat.reduceEqDiff, reduceIte]; go_simp; done) | (simp only [execOp, evF, upd, Nat.reduceEqDiff, reduceIte]; go_simp; omega)) ?_
  dsimp only [updO]
  refine f_val (.pointer (some ⟨gI, oI + n, none⟩)) (by rfl) (fun _ _ => by first | rfl | (simp only [execOp, evF, upd, Nat.reduceEqDiff, reduceIte]; go_simp; done) | (simp only [execOp, evF, upd, Nat.reduceEqDiff, reduceIte]; go_simp; omega)) ?_
  dsimp only [updO]
  refine f_load_str (by rfl) _ rfl ⟨gI, oI + n, none⟩ rfl (.string ⟨k.toArray⟩) (fun w' hc => (hc.cell (p := ⟨gI, oI + n, none⟩) (lt_of_cell hk)).trans hk) ?_
  dsimp only [updO]
  have hone := factC_one fv ft
  refine f_done ⟨?_, ?_⟩
  · refine ⟨by rfl, .inr (.inr ⟨25, _, (run_call_fn _ _ _ _ _ _ _ rfl rfl rfl (enters_of Tryz.func25 (by kernel_rfl) rfl _ _)), (HGt w0 hC0).mono ?_⟩)⟩
    rintro e w1 ⟨rfl, hb1⟩
    have hC1 := hC0.trans (hb1.mono hC0.size)
    refine ⟨_, rfl, hC1, ?_⟩
    change wpF _ _ _ _ _ _ (upd _ 283 _) _
    refine f_val (.tuple #[.agg (factC fv ft), .bool hb]) (by rfl) (fun _ _ => by first | rfl | (simp only [execOp, evF, upd, Nat.reduceEqDiff, reduceIte]; go_simp; done)) ?_
    dsimp only [updO]
    refine f_val (.agg (factC fv ft)) (by rfl) (fun _ _ => by first | rfl | (simp only [execOp, evF, upd, Nat.reduceEqDiff, reduceIte]; go_simp; done)) ?_
    dsimp only [updO]
    refine f_val (.bool hb) (by rfl) (fun _ _ => by first | rfl | (simp only [execOp, evF, upd, Nat.reduceEqDiff, reduceIte]; go_simp; done)) ?_
    dsimp only [updO]
    have hal : Below w1.heap.size w1 (w1.alloc (.cells (factC (fun _ => 0) ⟨#[]⟩) 40)) := (Below.refl _ w1).alloc (Nat.le_refl _) _
    refine f_stand (.pointer (some ⟨w1.heap.size, 0, none⟩)) (w1.alloc (.cells (factC (fun _ => 0) ⟨#[]⟩) 40)) (by rfl) (run_alloc_fact _ _ _ rfl) (hC1.trans (hal.mono hC1.size)) ?_
    try dsimp only [updO]
    have hst := below_setRow' hal w1.heap.size (factC fv ft) (Nat.le_refl _)
    refine f_skip ((w1.alloc (.cells (factC (fun _ => 0) ⟨#[]⟩) 40)).setRow w1.heap.size (factC fv ft)) (by rfl) (run_store_fact _ _ _ _ rfl _ rfl fv ft rfl (heap_new w1 _)) (hC1.trans (hst.mono hC1.size)) ?_
    try dsimp only [updO]
    refine f_val (.bool hb) (by rfl) (fun _ _ => by first | rfl | (simp only [execOp, evF, upd, Nat.reduceEqDiff, reduceIte]; go_simp; done)) ?_
    dsimp only [updO]
    refine f_done ⟨_, _, _, _, _, _, _, _, _, _, _, _, _, _, rfl, w1.heap.size, rfl, rfl, setRow_heap _ _ _ _ _ _ (heap_new w1 _), hC1.trans (hst.mono hC1.size)⟩
  · have hal : Below w0.heap.size w0 (w0.alloc (.cells (factC (fun _ => 0) ⟨#[]⟩) 40)) := (Below.refl _ w0).alloc (Nat.le_refl _) _
    have hCa := hC0.trans (hal.mono hC0.size)
    refine ⟨by rfl, .inl ⟨.pointer (some ⟨w0.heap.size, 0, none⟩), w0.alloc (.cells (factC (fun _ => 0) ⟨#[]⟩) 40), run_alloc_fact _ _ _ rfl, hCa, ?_⟩⟩
    change wpF _ _ _ _ _ _ (upd _ 24 _) _
    refine f_enter (fun vv w' => vv = .tuple #[.agg (factC fv ft), .bool hb] ∧ Below (w0.alloc (.cells (factC (fun _ => 0) ⟨#[]⟩) 40)).heap.size (w0.alloc (.cells (factC (fun _ => 0) ⟨#[]⟩) 40)) w') 25 #[.pointer (some ⟨P0, 0, none⟩), .string ⟨k.toArray⟩] (by rfl) (run_call_fn _ _ _ _ _ _ _ rfl rfl rfl (enters_of Tryz.func25 (by kernel_rfl) rfl _ _)) ((HGt _ hCa).mono (by rintro e W' ⟨rfl, hb⟩; exact ⟨_, rfl, ⟨rfl, hb⟩, hCa.trans (hb.mono hCa.size)⟩)) ?_
    rintro _ w1 ⟨rfl, hb1⟩ hC1
    dsimp only [List.take, List.drop, List.append_eq, List.cons_append, List.nil_append, updO]
    refine f_val (.tuple #[.agg (factC fv ft), .bool hb]) (by rfl) (fun _ _ => by first | rfl | (simp only [execOp, evF, upd, Nat.reduceEqDiff, reduceIte]; go_simp; done)) ?_
    dsimp only [updO]
    refine f_val (.agg (factC fv ft)) (by rfl) (fun _ _ => by first | rfl | (simp only [execOp, evF, upd, Nat.reduceEqDiff, reduceIte]; go_simp; done)) ?_
    dsimp only [updO]
    refine f_val (.bool hb) (by rfl) (fun _ _ => by first | rfl | (simp only [execOp, evF, upd, Nat.reduceEqDiff, reduceIte]; go_simp; done)) ?_
    dsimp only [updO]
    have hz0 : w0.heap.size < (w0.alloc (.cells (factC (fun _ => 0) ⟨#[]⟩) 40)).heap.size := by rw [World.size_alloc]; omega
    have hh : w1.heap[w0.heap.size]? = some (.cells (factC (fun _ => 0) ⟨#[]⟩) 40 (0, 0)) := (hb1.block _ hz0).trans (heap_new w0 _)
    have hst := below_setRow' (hal.trans (hb1.mono (by omega))) w0.heap.size (factC fv ft) (Nat.le_refl _)
    refine f_skip (w1.setRow w0.heap.size (factC fv ft)) (by rfl) (run_store_fact _ _ _ _ rfl _ rfl fv ft rfl hh) (hC0.trans (hst.mono hC0.size)) ?_
    try dsimp only [updO]
    refine f_val (.bool hb) (by rfl) (fun _ _ => by first | rfl | (simp only [execOp, evF, upd, Nat.reduceEqDiff, reduceIte]; go_simp; done)) ?_
    dsimp only [updO]
    refine f_done ⟨(.slice (some ⟨gs, 0, none⟩) 2 2), (.int .i64 (kk : Int)), (.pointer (some ⟨gs, kk, none⟩)), (.pointer (some ⟨P0, 0, none⟩)), (.slice (some ⟨gI, oI, none⟩) ids.length ci), (.int .i64 (n : Int)), (.pointer (some ⟨gI, oI + n, none⟩)), .string ⟨k.toArray⟩, .tuple #[.agg (factC fv ft), .bool hb], .tuple #[.agg (factC fv ft), .bool hb], .agg (factC fv ft), .bool hb, .pointer (some ⟨w0.heap.size, 0, none⟩), .bool hb, ?_, w0.heap.size, rfl, rfl, setRow_heap _ _ _ _ _ _ hh, hC0.trans (hst.mono hC0.size)⟩
    simp only [updL]
    rw [upd_comm _ (d := 24) (e := 283) _ _ (by decide), upd_comm _ (d := 24) (e := 274) _ _ (by decide), upd_comm _ (d := 24) (e := 284) _ _ (by decide), upd_comm _ (d := 24) (e := 285) _ _ (by decide)]
set_option maxRecDepth 100000 in
set_option maxHeartbeats 4000000 in
theorem reg37 (a : Act) (hs : a.tmps.size = 320) {W9 w : World} {gs gt kk jj P0 B0 Q0 P1 B1 Q1 : Nat} {F4 : Nat → Prop} {a0 t1 : List Ent} (HG : ∀ W, Stat W9 W F4 → W.cell? ⟨gs, kk, none⟩ = some (.pointer (some ⟨P0, 0, none⟩)) ∧ W.cell? ⟨gs, jj, none⟩ = some (.pointer (some ⟨P1, 0, none⟩)) ∧ W.cell? ⟨gt, kk, none⟩ = some (.pointer (some ⟨Q0, 0, none⟩)) ∧ W.cell? ⟨gt, jj, none⟩ = some (.pointer (some ⟨Q1, 0, none⟩))) (k0 : (0 : Int) ≤ (kk : Int)) (k2 : (kk : Int) < 2) (HF : Four B0 Q0 B1 Q1 = F4) (hQ : Quad W9 w P0 B0 Q0 P1 B1 Q1 a0 a0 t1 t1) {ids : List Bs} {gI oI ci n : Nat} {k : Bs} (n0 : (0 : Int) ≤ (n : Int)) (n1 : (n : Int) < (ids.length : Int)) (hk : w.cell? ⟨gI, oI + n, none⟩ = some (.string ⟨k.toArray⟩)) {fv : Nat → Int} {ft : ByteArray} {hb : Bool} (HGt : ∀ W, Below w.heap.size w W → Calls Tryz.prog 26 #[.pointer (some ⟨Q0, 0, none⟩), .string ⟨k.toArray⟩] W fun e W' => e = .returned (.tuple #[.agg (factC fv ft), .bool hb]) ∧ Below W.heap.size W W') (h9 : a.tmps.getD 9 undef = (.slice (some ⟨gt, 0, none⟩) 2 2)) (h12 : a.tmps.getD 12 undef = (.int .i64 (kk : Int))) (h2 : a.tmps.getD 2 undef = (.slice (some ⟨gI, oI, none⟩) ids.length ci)) (h23 : a.tmps.getD 23 undef = (.int .i64 (n : Int))) (Q : Exit → Act → World → Prop)
    (K : ∀ (u287 u288 u289 u290 u291 u292 u293 u294 u295 u286 u296 u297 u26 u27 : Value) (w' : World), (∃ fb : Nat, u26 = .pointer (some ⟨fb, 0, none⟩) ∧ u27 = .bool hb ∧ w'.heap[fb]? = some (.cells (factC fv ft) 40 (0, 0)) ∧ Below w.heap.size w w') → Q .normal (putL a [(287, u287), (288, u288), (289, u289), (290, u290), (291, u291), (292, u292), (293, u293), (294, u294), (295, u295), (286, u286), (296, u296), (297, u297), (26, u26), (27, u27)]) w') : Code.wp Tryz.prog (cod 37) Q a w := by
  have hr := ((((rep_self hs).know (d := 9) (v := (.slice (some ⟨gt, 0, none⟩) 2 2)) h9).know (d := 12) (v := (.int .i64 (kk : Int))) h12).know (d := 2) (v := (.slice (some ⟨gI, oI, none⟩) ids.length ci)) h2).know (d := 23) (v := (.int .i64 (n : Int))) h23
  conv => arg 2; whnf
  refine wp_region_two 320 _ (fun w' => Below w.heap.size w w') (fun w' => Below w.heap.size w w') (fun f' w' => ∃ u287 u288 u289 u290 u291 u292 u293 u294 u295 u286 u296 u297 u26 u27 : Value, f' = updL (upd (upd (upd (upd (fun t => a.tmps.getD t undef) 9 (.slice (some ⟨gt, 0, none⟩) 2 2)) 12 (.int .i64 (kk : Int))) 2 (.slice (some ⟨gI, oI, none⟩) ids.length ci)) 23 (.int .i64 (n : Int))) [(287, u287), (288, u288), (289, u289), (290, u290), (291, u291), (292, u292), (293, u293), (294, u294), (295, u295), (286, u286), (296, u296), (297, u297), (26, u26), (27, u27)] ∧ (∃ fb : Nat, u26 = .pointer (some ⟨fb, 0, none⟩) ∧ u27 = .bool hb ∧ w'.heap[fb]? = some (.cells (factC fv ft) 40 (0, 0)) ∧ Below w.heap.size w w')) (fun l => l.take 8) (fun l => (l.drop 9)) (fun l => (l.drop 8).take 4 ++ l.drop 13) [true, true, true, true, true, true, true, true] [true, true, true, false, false, true] [false, true, true, true, false, true] [0, 1, 2, 3, 4, 5, 6, 7] [9, 10, 11, 12, 13, 14] [8, 9, 10, 11, 13, 14] 6 #[true, true, true, true, true, true, true, true, false, false, false, false, false, false, false] 8 12 _ _ (by kernel_rfl) (by kernel_rfl) (by kernel_rfl) (by kernel_rfl) (by kernel_rfl) (by kernel_rfl) (by rfl) (by rfl) (by kernel_rfl) (by kernel_rfl) (by kernel_rfl) (by kernel_rfl) (by kernel_rfl) (by kernel_rfl) (by kernel_rfl) (by kernel_rfl) (by kernel_rfl) (by kernel_rfl) (by kernel_rfl) (by kernel_rfl) (by kernel_rfl) hr ((Below.drew (Below.refl _ _))) ((Below.drew (Below.refl _ _))) ?_ ?_
  rotate_left
  · rintro a' f' w' hr' hd ⟨u287, u288, u289, u290, u291, u292, u293, u294, u295, u286, u296, u297, u26, u27, rfl, hres⟩
    obtain rfl : a' = putL a [(287, u287), (288, u288), (289, u289), (290, u290), (291, u291), (292, u292), (293, u293), (294, u294), (295, u295), (286, u286), (296, u296), (297, u297), (26, u26), (27, u27)] := hr'.ext (hr.putL [(287, u287), (288, u288), (289, u289), (290, u290), (291, u291), (292, u292), (293, u293), (294, u294), (295, u295), (286, u286), (296, u296), (297, u297), (26, u26), (27, u27)] (by rfl)) (hd.trans (putL_defers _ _).symm)
    exact K u287 u288 u289 u290 u291 u292 u293 u294 u295 u286 u296 u297 u26 u27 w' hres
  intro w0 hC0 hD0
  clear K hr hs h9 h12 h2 h23
  dsimp only [List.take, List.drop]
  refine f_val (.slice (some ⟨gt, 0, none⟩) 2 2) (by rfl) (fun _ _ => by first | rfl | (simp only [execOp, evF, upd, Nat.reduceEqDiff, reduceIte]; go_simp; done) | (simp only [execOp, evF, upd, Nat.reduceEqDiff, reduceIte]; go_simp; omega)) ?_
  dsimp only [updO]
  refine f_val (.int .i64 (kk : Int)) (by rfl) (fun _ _ => by first | rfl | (simp only [execOp, evF, upd, Nat.reduceEqDiff, reduceIte]; go_simp; done) | (simp only [execOp, evF, upd, Nat.reduceEqDiff, reduceIte]; go_simp; omega)) ?_
  dsimp only [updO]
  refine f_val (.pointer (some ⟨gt, kk, none⟩)) (by rfl) (fun _ _ => by first | rfl | (simp only [execOp, evF, upd, Nat.reduceEqDiff, reduceIte]; go_simp; done) | (simp only [execOp, evF, upd, Nat.reduceEqDiff, reduceIte]; go_simp; omega)) ?_
  dsimp only [updO]
  refine f_load_pr (by rfl) _ rfl ⟨gt, kk, none⟩ rfl (some ⟨Q0, 0, none⟩) (fun w' hc => (HG w' ((hQ.below hc).mono4 HF)).2.2.1) ?_
  dsimp only [updO]
  refine f_val (.slice (some ⟨gI, oI, none⟩) ids.length ci) (by rfl) (fun _ _ => by first | rfl | (simp only [execOp, evF, upd, Nat.reduceEqDiff, reduceIte]; go_simp; done) | (simp only [execOp, evF, upd, Nat.reduceEqDiff, reduceIte]; go_simp; omega)) ?_
  dsimp only [updO]
  refine f_val (.int .i64 (n : Int)) (by rfl) (fun _ _ => by first | rfl | (simp only [execOp, evF, upd, Nat.reduceEqDiff, reduceIte]; go_simp; done) | (simp only [execOp, evF, upd, Nat.reduceEqDiff, reduceIte]; go_simp; omega)) ?_
  dsimp only [updO]
  refine f_val (.pointer (some ⟨gI, oI + n, none⟩)) (by rfl) (fun _ _ => by first | rfl | (simp only [execOp, evF, upd, Nat.reduceEqDiff, reduceIte]; go_simp; done) | (simp only [execOp, evF, upd, Nat.reduceEqDiff, reduceIte]; go_simp; omega)) ?_
  dsimp only [updO]
  refine f_load_str (by rfl) _ rfl ⟨gI, oI + n, none⟩ rfl (.string ⟨k.toArray⟩) (fun w' hc => (hc.cell (p := ⟨gI, oI + n, none⟩) (lt_of_cell hk)).trans hk) ?_
  dsimp only [updO]
  have hone := factC_one fv ft
  refine f_done ⟨?_, ?_⟩
  · refine ⟨by rfl, .inr (.inr ⟨26, _, (run_call_fn _ _ _ _ _ _ _ rfl rfl rfl (enters_of Tryz.func26 (by kernel_rfl) rfl _ _)), (HGt w0 hC0).mono ?_⟩)⟩
    rintro e w1 ⟨rfl, hb1⟩
    have hC1 := hC0.trans (hb1.mono hC0.size)
    refine ⟨_, rfl, hC1, ?_⟩
    change wpF _ _ _ _ _ _ (upd _ 295 _) _
    refine f_val (.tuple #[.agg (factC fv ft), .bool hb]) (by rfl) (fun _ _ => by first | rfl | (simp only [execOp, evF, upd, Nat.reduceEqDiff, reduceIte]; go_simp; done)) ?_
    dsimp only [updO]
    refine f_val (.agg (factC fv ft)) (by rfl) (fun _ _ => by first | rfl | (simp only [execOp, evF, upd, Nat.reduceEqDiff, reduceIte]; go_simp; done)) ?_
    dsimp only [updO]
    refine f_val (.bool hb) (by rfl) (fun _ _ => by first | rfl | (simp only [execOp, evF, upd, Nat.reduceEqDiff, reduceIte]; go_simp; done)) ?_
    dsimp only [updO]
    have hal : Below w1.heap.size w1 (w1.alloc (.cells (factC (fun _ => 0) ⟨#[]⟩) 40)) := (Below.refl _ w1).alloc (Nat.le_refl _) _
    refine f_stand (.pointer (some ⟨w1.heap.size, 0, none⟩)) (w1.alloc (.cells (factC (fun _ => 0) ⟨#[]⟩) 40)) (by rfl) (run_alloc_fact _ _ _ rfl) (hC1.trans (hal.mono hC1.size)) ?_
    try dsimp only [updO]
    have hst := below_setRow' hal w1.heap.size (factC fv ft) (Nat.le_refl _)
    refine f_skip ((w1.alloc (.cells (factC (fun _ => 0) ⟨#[]⟩) 40)).setRow w1.heap.size (factC fv ft)) (by rfl) (run_store_fact _ _ _ _ rfl _ rfl fv ft rfl (heap_new w1 _)) (hC1.trans (hst.mono hC1.size)) ?_
    try dsimp only [updO]
    refine f_val (.bool hb) (by rfl) (fun _ _ => by first | rfl | (simp only [execOp, evF, upd, Nat.reduceEqDiff, reduceIte]; go_simp; done)) ?_
    dsimp only [updO]
    refine f_done ⟨_, _, _, _, _, _, _, _, _, _, _, _, _, _, rfl, w1.heap.size, rfl, rfl, setRow_heap _ _ _ _ _ _ (heap_new w1 _), hC1.trans (hst.mono hC1.size)⟩
  · have hal : Below w0.heap.size w0 (w0.alloc (.cells (factC (fun _ => 0) ⟨#[]⟩) 40)) := (Below.refl _ w0).alloc (Nat.le_refl _) _
    have hCa := hC0.trans (hal.mono hC0.size)
    refine ⟨by rfl, .inl ⟨.pointer (some ⟨w0.heap.size, 0, none⟩), w0.alloc (.cells (factC (fun _ => 0) ⟨#[]⟩) 40), run_alloc_fact _ _ _ rfl, hCa, ?_⟩⟩
    change wpF _ _ _ _ _ _ (upd _ 26 _) _
    refine f_enter (fun vv w' => vv = .tuple #[.agg (factC fv ft), .bool hb] ∧ Below (w0.alloc (.cells (factC (fun _ => 0) ⟨#[]⟩) 40)).heap.size (w0.alloc (.cells (factC (fun _ => 0) ⟨#[]⟩) 40)) w') 26 #[.pointer (some ⟨Q0, 0, none⟩), .string ⟨k.toArray⟩] (by rfl) (run_call_fn _ _ _ _ _ _ _ rfl rfl rfl (enters_of Tryz.func26 (by kernel_rfl) rfl _ _)) ((HGt _ hCa).mono (by rintro e W' ⟨rfl, hb⟩; exact ⟨_, rfl, ⟨rfl, hb⟩, hCa.trans (hb.mono hCa.size)⟩)) ?_
    rintro _ w1 ⟨rfl, hb1⟩ hC1
    dsimp only [List.take, List.drop, List.append_eq, List.cons_append, List.nil_append, updO]
    refine f_val (.tuple #[.agg (factC fv ft), .bool hb]) (by rfl) (fun _ _ => by first | rfl | (simp only [execOp, evF, upd, Nat.reduceEqDiff, reduceIte]; go_simp; done)) ?_
    dsimp only [updO]
    refine f_val (.agg (factC fv ft)) (by rfl) (fun _ _ => by first | rfl | (simp only [execOp, evF, upd, Nat.reduceEqDiff, reduceIte]; go_simp; done)) ?_
    dsimp only [updO]
    refine f_val (.bool hb) (by rfl) (fun _ _ => by first | rfl | (simp only [execOp, evF, upd, Nat.reduceEqDiff, reduceIte]; go_simp; done)) ?_
    dsimp only [updO]
    have hz0 : w0.heap.size < (w0.alloc (.cells (factC (fun _ => 0) ⟨#[]⟩) 40)).heap.size := by rw [World.size_alloc]; omega
    have hh : w1.heap[w0.heap.size]? = some (.cells (factC (fun _ => 0) ⟨#[]⟩) 40 (0, 0)) := (hb1.block _ hz0).trans (heap_new w0 _)
    have hst := below_setRow' (hal.trans (hb1.mono (by omega))) w0.heap.size (factC fv ft) (Nat.le_refl _)
    refine f_skip (w1.setRow w0.heap.size (factC fv ft)) (by rfl) (run_store_fact _ _ _ _ rfl _ rfl fv ft rfl hh) (hC0.trans (hst.mono hC0.size)) ?_
    try dsimp only [updO]
    refine f_val (.bool hb) (by rfl) (fun _ _ => by first | rfl | (simp only [execOp, evF, upd, Nat.reduceEqDiff, reduceIte]; go_simp; done)) ?_
    dsimp only [updO]
    refine f_done ⟨(.slice (some ⟨gt, 0, none⟩) 2 2), (.int .i64 (kk : Int)), (.pointer (some ⟨gt, kk, none⟩)), (.pointer (some ⟨Q0, 0, none⟩)), (.slice (some ⟨gI, oI, none⟩) ids.length ci), (.int .i64 (n : Int)), (.pointer (some ⟨gI, oI + n, none⟩)), .string ⟨k.toArray⟩, .tuple #[.agg (factC fv ft), .bool hb], .tuple #[.agg (factC fv ft), .bool hb], .agg (factC fv ft), .bool hb, .pointer (some ⟨w0.heap.size, 0, none⟩), .bool hb, ?_, w0.heap.size, rfl, rfl, setRow_heap _ _ _ _ _ _ hh, hC0.trans (hst.mono hC0.size)⟩
    simp only [updL]
    rw [upd_comm _ (d := 26) (e := 295) _ _ (by decide), upd_comm _ (d := 26) (e := 286) _ _ (by decide), upd_comm _ (d := 26) (e := 296) _ _ (by decide), upd_comm _ (d := 26) (e := 297) _ _ (by decide)]
set_option maxRecDepth 100000 in
set_option maxHeartbeats 4000000 in
theorem reg38 (a : Act) (hs : a.tmps.size = 320) {W9 w : World} {gs gt kk jj P0 B0 Q0 P1 B1 Q1 : Nat} {F4 : Nat → Prop} {a0 t1 : List Ent} (HG : ∀ W, Stat W9 W F4 → W.cell? ⟨gs, kk, none⟩ = some (.pointer (some ⟨P0, 0, none⟩)) ∧ W.cell? ⟨gs, jj, none⟩ = some (.pointer (some ⟨P1, 0, none⟩)) ∧ W.cell? ⟨gt, kk, none⟩ = some (.pointer (some ⟨Q0, 0, none⟩)) ∧ W.cell? ⟨gt, jj, none⟩ = some (.pointer (some ⟨Q1, 0, none⟩))) (k0 : (0 : Int) ≤ (kk : Int)) (k2 : (kk : Int) < 2) (HF : Four B0 Q0 B1 Q1 = F4) (hQ : Quad W9 w P0 B0 Q0 P1 B1 Q1 a0 a0 t1 t1) {ids : List Bs} {gI oI ci n : Nat} {k : Bs} (n0 : (0 : Int) ≤ (n : Int)) (n1 : (n : Int) < (ids.length : Int)) (hk : w.cell? ⟨gI, oI + n, none⟩ = some (.string ⟨k.toArray⟩)) {fv : Nat → Int} {ft : ByteArray} {hb : Bool} {f1 f2 : Nat} (hf1 : w.heap[f1]? = some (.cells (factC fv ft) 40 (0, 0))) (hf2 : w.heap[f2]? = some (.cells (factC fv ft) 40 (0, 0))) (HHt : ∀ W, Below w.heap.size w W → Calls Tryz.prog 27 #[.pointer (some ⟨P0, 0, none⟩), .string ⟨k.toArray⟩] W fun e W' => e = .returned (.bool hb) ∧ Below W.heap.size W W') (h8 : a.tmps.getD 8 undef = (.slice (some ⟨gs, 0, none⟩) 2 2)) (h12 : a.tmps.getD 12 undef = (.int .i64 (kk : Int))) (h2 : a.tmps.getD 2 undef = (.slice (some ⟨gI, oI, none⟩) ids.length ci)) (h23 : a.tmps.getD 23 undef = (.int .i64 (n : Int))) (h24 : a.tmps.getD 24 undef = (.pointer (some ⟨f1, 0, none⟩))) (h25 : a.tmps.getD 25 undef = (.bool hb)) (h26 : a.tmps.getD 26 undef = (.pointer (some ⟨f2, 0, none⟩))) (h27 : a.tmps.getD 27 undef = (.bool hb)) (Q : Exit → Act → World → Prop)
    (K : ∀ (u298 u299 u300 u301 u302 u303 u304 u305 u306 u307 u308 u309 u310 u311 u312 u313 u314 u316 u315 u317 u318 : Value) (w' : World), (u318 = .bool false ∧ Below w.heap.size w w') → Q .normal (putL a [(298, u298), (299, u299), (300, u300), (301, u301), (302, u302), (303, u303), (304, u304), (305, u305), (306, u306), (307, u307), (308, u308), (309, u309), (310, u310), (311, u311), (312, u312), (313, u313), (314, u314), (316, u316), (315, u315), (317, u317), (318, u318)]) w') : Code.wp Tryz.prog (cod 38) Q a w := by
  have hr := ((((((((rep_self hs).know (d := 8) (v := (.slice (some ⟨gs, 0, none⟩) 2 2)) h8).know (d := 12) (v := (.int .i64 (kk : Int))) h12).know (d := 2) (v := (.slice (some ⟨gI, oI, none⟩) ids.length ci)) h2).know (d := 23) (v := (.int .i64 (n : Int))) h23).know (d := 24) (v := (.pointer (some ⟨f1, 0, none⟩))) h24).know (d := 25) (v := (.bool hb)) h25).know (d := 26) (v := (.pointer (some ⟨f2, 0, none⟩))) h26).know (d := 27) (v := (.bool hb)) h27
  conv => arg 2; whnf
  refine wp_region_F 320 _ [17] (fun w' => Below w.heap.size w w') (fun w' => Below w.heap.size w w') (fun f' w' => ∃ u298 u299 u300 u301 u302 u303 u304 u305 u306 u307 u308 u309 u310 u311 u312 u313 u314 u316 u315 u317 u318 : Value, f' = updL (upd (upd (upd (upd (upd (upd (upd (upd (fun t => a.tmps.getD t undef) 8 (.slice (some ⟨gs, 0, none⟩) 2 2)) 12 (.int .i64 (kk : Int))) 2 (.slice (some ⟨gI, oI, none⟩) ids.length ci)) 23 (.int .i64 (n : Int))) 24 (.pointer (some ⟨f1, 0, none⟩))) 25 (.bool hb)) 26 (.pointer (some ⟨f2, 0, none⟩))) 27 (.bool hb)) [(298, u298), (299, u299), (300, u300), (301, u301), (302, u302), (303, u303), (304, u304), (305, u305), (306, u306), (307, u307), (308, u308), (309, u309), (310, u310), (311, u311), (312, u312), (313, u313), (314, u314), (316, u316), (315, u315), (317, u317), (318, u318)] ∧ (u318 = .bool false ∧ Below w.heap.size w w')) [true, true, true, true, true, true, true, true, true, true, true, true, true, true, true, true, true, true, false, true, true] [0, 1, 2, 3, 4, 5, 6, 7, 8, 9, 10, 11, 12, 13, 14, 15, 16, 18, 17, 19, 20] (by kernel_rfl) (by kernel_rfl) (by kernel_rfl) (by kernel_rfl) hr ((Below.drew (Below.refl _ _))) ((Below.drew (Below.refl _ _))) ?_ ?_
  rotate_left
  · rintro a' f' w' hr' hd ⟨u298, u299, u300, u301, u302, u303, u304, u305, u306, u307, u308, u309, u310, u311, u312, u313, u314, u316, u315, u317, u318, rfl, hres⟩
    obtain rfl : a' = putL a [(298, u298), (299, u299), (300, u300), (301, u301), (302, u302), (303, u303), (304, u304), (305, u305), (306, u306), (307, u307), (308, u308), (309, u309), (310, u310), (311, u311), (312, u312), (313, u313), (314, u314), (316, u316), (315, u315), (317, u317), (318, u318)] := hr'.ext (hr.putL [(298, u298), (299, u299), (300, u300), (301, u301), (302, u302), (303, u303), (304, u304), (305, u305), (306, u306), (307, u307), (308, u308), (309, u309), (310, u310), (311, u311), (312, u312), (313, u313), (314, u314), (316, u316), (315, u315), (317, u317), (318, u318)] (by rfl)) (hd.trans (putL_defers _ _).symm)
    exact K u298 u299 u300 u301 u302 u303 u304 u305 u306 u307 u308 u309 u310 u311 u312 u313 u314 u316 u315 u317 u318 w' hres
  intro w0 hC0 hD0
  clear K hr hs h8 h12 h2 h23 h24 h25 h26 h27
  dsimp only [List.foldl, swapAt]
  refine f_val (.bool hb) (by rfl) (fun _ _ => by first | rfl | (simp only [execOp, evF, upd, Nat.reduceEqDiff, reduceIte]; go_simp; done) | (simp only [execOp, evF, upd, Nat.reduceEqDiff, reduceIte]; go_simp; omega)) ?_
  dsimp only [updO]
  refine f_val (.bool hb) (by rfl) (fun _ _ => by first | rfl | (simp only [execOp, evF, upd, Nat.reduceEqDiff, reduceIte]; go_simp; done) | (simp only [execOp, evF, upd, Nat.reduceEqDiff, reduceIte]; go_simp; omega)) ?_
  dsimp only [updO]
  refine f_val (.bool false) (by rfl) (fun _ _ => by cases hb <;> rfl) ?_
  dsimp only [updO]
  refine f_val (.bool false) (by rfl) (fun _ _ => by first | rfl | (simp only [execOp, evF, upd, Nat.reduceEqDiff, reduceIte]; go_simp; done) | (simp only [execOp, evF, upd, Nat.reduceEqDiff, reduceIte]; go_simp; omega)) ?_
  dsimp only [updO]
  refine f_load_fact (by rfl) _ rfl f1 rfl fv ft (fun w' hc => (hc.block _ (Array.getElem?_eq_some_iff.1 hf1).1).trans hf1) ?_
  dsimp only [updO]
  refine f_load_fact (by rfl) _ rfl f2 rfl fv ft (fun w' hc => (hc.block _ (Array.getElem?_eq_some_iff.1 hf2).1).trans hf2) ?_
  dsimp only [updO]
  refine f_neF (by rfl) _ _ _ rfl (fv, ft) rfl rfl ?_
  dsimp only [updO]
  refine f_val (.bool false) (by rfl) (fun _ _ => by first | rfl | (simp only [execOp, evF, upd, Nat.reduceEqDiff, reduceIte]; go_simp; done) | (simp only [execOp, evF, upd, Nat.reduceEqDiff, reduceIte]; go_simp; omega)) ?_
  dsimp only [updO]
  refine f_val (.bool false) (by rfl) (fun _ _ => by first | rfl | (simp only [execOp, evF, upd, Nat.reduceEqDiff, reduceIte]; go_simp; done) | (simp only [execOp, evF, upd, Nat.reduceEqDiff, reduceIte]; go_simp; omega)) ?_
  dsimp only [updO]
  refine f_val (.slice (some ⟨gs, 0, none⟩) 2 2) (by rfl) (fun _ _ => by first | rfl | (simp only [execOp, evF, upd, Nat.reduceEqDiff, reduceIte]; go_simp; done) | (simp only [execOp, evF, upd, Nat.reduceEqDiff, reduceIte]; go_simp; omega)) ?_
  dsimp only [updO]
  refine f_val (.int .i64 (kk : Int)) (by rfl) (fun _ _ => by first | rfl | (simp only [execOp, evF, upd, Nat.reduceEqDiff, reduceIte]; go_simp; done) | (simp only [execOp, evF, upd, Nat.reduceEqDiff, reduceIte]; go_simp; omega)) ?_
  dsimp only [updO]
  refine f_val (.pointer (some ⟨gs, kk, none⟩)) (by rfl) (fun _ _ => by first | rfl | (simp only [execOp, evF, upd, Nat.reduceEqDiff, reduceIte]; go_simp; done) | (simp only [execOp, evF, upd, Nat.reduceEqDiff, reduceIte]; go_simp; omega)) ?_
  dsimp only [updO]
  refine f_load_ps (by rfl) _ rfl ⟨gs, kk, none⟩ rfl (some ⟨P0, 0, none⟩) (fun w' hc => (HG w' ((hQ.below hc).mono4 HF)).1) ?_
  dsimp only [updO]
  refine f_val (.slice (some ⟨gI, oI, none⟩) ids.length ci) (by rfl) (fun _ _ => by first | rfl | (simp only [execOp, evF, upd, Nat.reduceEqDiff, reduceIte]; go_simp; done) | (simp only [execOp, evF, upd, Nat.reduceEqDiff, reduceIte]; go_simp; omega)) ?_
  dsimp only [updO]
  refine f_val (.int .i64 (n : Int)) (by rfl) (fun _ _ => by first | rfl | (simp only [execOp, evF, upd, Nat.reduceEqDiff, reduceIte]; go_simp; done) | (simp only [execOp, evF, upd, Nat.reduceEqDiff, reduceIte]; go_simp; omega)) ?_
  dsimp only [updO]
  refine f_val (.pointer (some ⟨gI, oI + n, none⟩)) (by rfl) (fun _ _ => by first | rfl | (simp only [execOp, evF, upd, Nat.reduceEqDiff, reduceIte]; go_simp; done) | (simp only [execOp, evF, upd, Nat.reduceEqDiff, reduceIte]; go_simp; omega)) ?_
  dsimp only [updO]
  refine f_load_str (by rfl) _ rfl ⟨gI, oI + n, none⟩ rfl (.string ⟨k.toArray⟩) (fun w' hc => (hc.cell (p := ⟨gI, oI + n, none⟩) (lt_of_cell hk)).trans hk) ?_
  dsimp only [updO]
  refine f_val (.bool hb) (by rfl) (fun _ _ => by first | rfl | (simp only [execOp, evF, upd, Nat.reduceEqDiff, reduceIte]; go_simp; done) | (simp only [execOp, evF, upd, Nat.reduceEqDiff, reduceIte]; go_simp; omega)) ?_
  dsimp only [updO]
  refine f_enter (fun vv w' => vv = .bool hb ∧ Below w0.heap.size w0 w') 27 #[.pointer (some ⟨P0, 0, none⟩), .string ⟨k.toArray⟩] (by rfl) (run_call_fn _ _ _ _ _ _ _ rfl rfl rfl (enters_of Tryz.func27 (by kernel_rfl) rfl _ _)) ((HHt w0 hC0).mono (by rintro e W' ⟨rfl, hb⟩; exact ⟨_, rfl, ⟨rfl, hb⟩, hC0.trans (hb.mono hC0.size)⟩)) ?_
  rintro _ w1 ⟨rfl, hb1⟩ hC1
  dsimp only [updO]
  refine f_val (.bool false) (by rfl) (fun _ _ => by cases hb <;> rfl) ?_
  dsimp only [updO]
  refine f_val (.bool false) (by rfl) (fun _ _ => by first | rfl | (simp only [execOp, evF, upd, Nat.reduceEqDiff, reduceIte]; go_simp; done) | (simp only [execOp, evF, upd, Nat.reduceEqDiff, reduceIte]; go_simp; omega)) ?_
  dsimp only [updO]
  refine f_done ?_
  exact ⟨_, _, _, _, _, _, _, _, _, _, _, _, _, _, _, _, _, _, _, _, _, rfl, rfl, hC1⟩
end Go.Proofs.YtnndnjnpkjpkpaaGreatDoor
