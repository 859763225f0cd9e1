/- Base's map of the facts that prevail, by the keys' bytes; look-ups and stores. | The contracts of maps.Keys and of its iterator over base's map: each key comes once, in whatever order. | Contracts of the laws' cut and of; rows of facts of one's own. -/
import Derived.Test.YtngkfopdlkddnaaK18
import Derived.Test.YtngkfopdlkddnaaK17
import Derived.Test.YtngkfopdlkddnaaK02
import Derived.Sort.KeysCollected
import Derived.Sort.MapsRangeIn
import Derived.RangeFuncNested
import Derived.RangeFuncBound
import Derived.RangeFuncCalls
import Derived.RangeFuncLeaves
import Derived.RangeFuncFrom
import Derived.RangeFuncBox
import Derived.RangeFuncKeeps
import Derived.Shelf.Abstract
import Derived.Shelf.RegionOpen
import Derived.OwnWalkIn
import Derived.TacticsInMore
import Derived.LoopNIn
import Derived.LoopIn
namespace Go.Proofs.Ytngkfopdlkddnaa
open Go Go.RowKit Go.Maps
def valX (x : Fx) : Value := valF (faX x)
abbrev bestX (m : List Fx) (k : K3) : Option Fx := Bs.best okX keyX pvX m k
/-- The entries are those that prevail in m. -/
def BestP (m : List Fx) (es : List Ent) : Prop := Asc es ∧ (∀ k, InK k → getE es (kb k) = (bestX m k).map valX) ∧ (∀ p ∈ es, ∃ k, InK k ∧ p.1 = kb k) ∧ es.length ≤ m.length
theorem bestP_nil : BestP [] [] := ⟨List.Pairwise.nil, fun _ _ => rfl, fun _ h => (by cases h), Nat.le_refl _⟩
theorem BestP.skip {m : List Fx} {es : List Ent} (h : BestP m es) {x : Fx} (hx : ∀ k, InK k → bestX (m ++ [x]) k = bestX m k) : BestP (m ++ [x]) es :=
  ⟨h.1, fun k hk => by rw [hx k hk]; exact h.2.1 k hk, h.2.2.1, by have := h.2.2.2; simp; omega⟩
theorem BestP.bad {m : List Fx} {es : List Ent} (h : BestP m es) {x : Fx} (hx : okX x = false) : BestP (m ++ [x]) es :=
  h.skip fun k _ => by rw [bestX, Bs.best_snoc, Bs.stepB_off (fun h => by rw [hx] at h; cases h.1)]
theorem BestP.worse {m : List Fx} {es : List Ent} (h : BestP m es) {x y : Fx} (hx : okX x = true) (hy : bestX m (keyX x) = some y) (hp : pvX x y = false) : BestP (m ++ [x]) es :=
  h.skip fun k _ => by
    rw [bestX, Bs.best_snoc]
    by_cases hk : okX x = true ∧ keyX x = k
    · obtain ⟨_, rfl⟩ := hk
      rw [show Bs.best okX keyX pvX m (keyX x) = some y from hy, Bs.stepB_some ⟨hx, rfl⟩, hp]
      exact hy.symm
    · rw [Bs.stepB_off hk]
theorem BestP.put {m : List Fx} {es : List Ent} (h : BestP m es) {x : Fx} (hx : okX x = true) (hp : ∀ y, bestX m (keyX x) = some y → pvX x y = true) : BestP (m ++ [x]) (putE (kb (keyX x)) (valX x) es) := by
  have hin := ok_inK hx
  refine ⟨putE_asc h.1, fun k hk => ?_, fun p hp2 => ?_, ?_⟩
  · rw [putE_get h.1, bestX, Bs.best_snoc]
    by_cases e : keyX x = k
    · subst e
      rw [if_pos rfl]
      cases hb : Bs.best okX keyX pvX m (keyX x) with
      | none => rw [Bs.stepB_none ⟨hx, rfl⟩]; rfl
      | some y => rw [Bs.stepB_some ⟨hx, rfl⟩, hp y hb]; rfl
    · rw [if_neg (fun h2 => e (kb_inj hin hk h2)), Bs.stepB_off (fun h2 => e h2.2)]
      exact h.2.1 k hk
  · rcases putE_mem hp2 with rfl | hp2
    · exact ⟨keyX x, hin, rfl⟩
    · exact h.2.2.1 p hp2
  · have := putE_length (k := kb (keyX x)) (x := valX x) h.1
    have h2 := h.2.2.2
    rw [this]
    simp only [List.length_append, List.length_cons, List.length_nil]
    split <;> omega
def BMap (w : World) (b : Nat) (es : List Ent) : Prop := w.ownsMap Try.prog 41 valR b es.length (dS es)
theorem BMap.of {w : World} {b n : Nat} {es : List Ent} (h : w.ownsMap Try.prog 41 valR b n (dS es)) : BMap w b es := by
  have := owns_tight h
  rwa [size_dS] at this
theorem BMap.keep {w w' : World} {b : Nat} {es : List Ent} {row : Option Nat} (h : BMap w b es) (hg : w.grownBy w' row) (h2 : row ≠ some b) : BMap w' b es := World.ownsMap.kept h hg (fun e => h2 e.symm)
theorem BMap.below {w w' : World} {b : Nat} {es : List Ent} (h : BMap w b es) (hb : Below w.heap.size w w') : BMap w' b es := h.keep (row := none) ⟨hb.os, hb.tape, hb.output, hb.size, fun i hi _ => hb.block i hi⟩ (by simp)
theorem BMap.look_ok {w : World} {b : Nat} {es : List Ent} (h : BMap w b es) (k : K3) (hk : InK k) :
    (Instr.lookup 60 (.map (some b)) (keyC k) true).run Try.prog w = .ok (.tuple #[lookE es (kb k), .bool (hasE es (kb k))]) w := by
  obtain ⟨v, ps, hrun, hv⟩ := World.ownsMap.look_ok h law3 Try.underlying60 (zero_fact w) (show valR (valF zeroA) = some (.held (valF zeroA), []) from rfl) (key_of k hk)
  rw [at_dS, has_dS] at *
  unfold valR at hv
  simp only [Option.some.injEq, Prod.mk.injEq, DataW.held.injEq] at hv
  rw [hrun, hv.1]
  rfl
theorem BMap.look {w : World} {b : Nat} {es : List Ent} (h : BMap w b es) (k : K3) (hk : InK k) :
    (Instr.lookup 60 (.map (some b)) (keyC k) false).run Try.prog w = .ok (lookE es (kb k)) w := by
  obtain ⟨v, ps, hrun, hv⟩ := World.ownsMap.lookup h law3 Try.underlying60 (zero_fact w) (show valR (valF zeroA) = some (.held (valF zeroA), []) from rfl) (key_of k hk)
  rw [at_dS] at *
  unfold valR at hv
  simp only [Option.some.injEq, Prod.mk.injEq, DataW.held.injEq] at hv
  rw [hrun, hv.1]
  rfl
theorem BMap.store {w : World} {b : Nat} {es : List Ent} (h : BMap w b es) (ha : Asc es) (hn : es.length < maxLen) (k : K3) (hk : InK k) (x : Value) :
    ∃ w', (Instr.mapUpdate 60 (.map (some b)) (keyC k) x).run Try.prog w = .ok () w' ∧ BMap w' b (putE (kb k) x es) ∧ w.grownBy w' (some b) := by
  obtain ⟨w', hrun, hown, hg⟩ := World.ownsMap.update h law3 Try.underlying60 hn (key_of k hk) (show valR x = some (.held x, []) from rfl)
  rw [put_dS ha] at hown
  exact ⟨w', hrun, BMap.of hown, hg⟩
end Go.Proofs.Ytngkfopdlkddnaa
namespace Go.Proofs.Ytngkfopdlkddnaa
open Go Go.RowKit Go.Maps Go.Shelf
theorem keysK_in (n : Nat) (mb : Option Nat) (W : World) : CallsIn Fence.wide n Try.prog 48 #[.map mb] W fun e w' => e = .returned (.func (.func 68) #[] #[.pointer (some ⟨W.heap.size, 0, none⟩)]) ∧ w' = W.alloc (.cells #[.map mb] 60) := by
  refine callsIn_wide.2 ?_
  go_enter Try.func48, Try.ntmps48
  go_wp2_with fail
  go_ret
  exact ⟨rfl, rfl⟩
theorem has_dS_some {es : List Ent} {kl : Lit} (h : has (dS es) kl = true) : ∃ p ∈ es, kl = .string p.1 := by
  unfold dS at h
  rw [has_eq, List.any_eq_true] at h
  obtain ⟨q, hq, hs⟩ := h
  obtain ⟨p, hp, rfl⟩ := List.mem_map.1 hq
  exact ⟨p, hp, (WideAt.sameKey_eq hs).symm⟩
/-- All keys of the entries, each once. -/
def AllKeys (es : List Ent) (ks : List K3) : Prop := (∀ k ∈ ks, InK k) ∧ (ks.map kb).Nodup ∧ ∀ x, x ∈ ks.map kb ↔ hasE es x = true
set_option maxRecDepth 100000 in
set_option maxHeartbeats 2000000 in
theorem keys1_in (n l Bs b : Nat) (h1 : 1 ≤ n) (es : List Ent) (J Jx : List K3 → World → Prop) (W : World) (hJ : AbidesFrom W.heap.size J)
    (hY : ∀ pre x W1, J pre W1 → pre.length < es.length → YieldAt Fence.wide (n - 1) Try.prog l #[keyC x] W1 fun e W' => (e = .returned (.bool true) ∧ J (pre ++ [x]) W' ∧ KeepsWalks W1 W') ∨ (e = .returned (.bool false) ∧ Jx (pre ++ [x]) W'))
    (hBs : W.cell? ⟨Bs, 0, none⟩ = some (.map (some b))) (hM : BMap W b es) (hkeys : ∀ p ∈ es, ∃ k, InK k ∧ p.1 = kb k) (h0 : J [] W) :
    CallsIn Fence.wide n Try.prog 68 #[.func (.yield l) #[] #[], .pointer (some ⟨Bs, 0, none⟩)] W fun e W' => (∃ v, e = .returned v) ∧
      ((∃ ks : List K3, AllKeys es ks ∧ J ks W') ∨ (∃ pre : List K3, True ∧ Jx pre W')) := by
  have HM := Lib.hid hM
  have hown : W.ownsMap Try.prog 41 valR b es.length (dS es) := hM
  have hsz : Maps.size (dS es) = es.length := size_dS es
  clear hM
  refine callsIn_of_wp Try.func68 rfl trivial ?_ rfl
  simp only [Try.ntmps68, List.size_toArray, List.length_cons, List.length_nil, Nat.reduceAdd, Nat.reduceSub, Array.replicate_succ, Array.replicate_zero, List.push_toArray, List.append_toArray, List.nil_append, List.cons_append]
  gi_wp2_with (first
    | (gi_at_range; refine wpListIn_range_own _ rfl _ 60 rfl 41 29 law3 Try.underlying60 _ b es.length _ rfl hown ?_; intro w0 hrg0 hg0 hs0)
    | gi_in)
  go_frame
  gi_loopw [3] (fun _ wr => ∃ (left : Lit → Bool) (cnt : Nat) (ks : List K3), wr.ranges Try.prog 41 valR b W.heap.size es.length (dS es) left cnt ∧ ks.length + cnt ≤ es.length ∧ Collected (dS es) left (ks.map kb) ∧ (∀ k ∈ ks, InK k) ∧ J ks wr)
    (fun _ wr => wr.rangeLeft b W.heap.size)
  case atStart =>
    exact ⟨_, _, [], hrg0, by rw [hsz]; simp, Collected.start _, (fun _ h => by cases h), hJ [] W w0 none h0 hg0 (fun r e => by cases e)⟩
  case round =>
    obtain ⟨left, cnt, ks, hrg, hcs, hC, hin, hJs⟩ := hrel
    gi_wp2_with (first
      | (gi_at_next; refine wpListIn_next_ranges _ rfl _ rfl 41 law3 valR (id : Value → Value) (id : Value → Value) (fun key _ _ => ⟨key, rfl⟩) (fun v _ _ => ⟨v, rfl⟩) b W.heap.size es.length _ _ _ rfl hrg ?_ ?_)
      | gi_in)
    · intro hc0 hl0
      gi_wp2
      go_end0
      refine ⟨⟨_, rfl⟩, .inl ⟨ks, ⟨hin, hC.1, fun x => ?_⟩, hJs⟩⟩
      rw [hC.2 x, hl0, has_dS]
      simp
    · intro x c kl yd yp w2 cnt2 hkey hlk hv hat hrg2 hlt hg2 hs2 hen
      obtain ⟨p, hp, rfl⟩ := has_dS_some (has_true_of_atKey hat)
      obtain ⟨k, hk, hpk⟩ := hkeys p hp
      rw [hpk] at hkey hlk hat hrg2
      obtain rfl : x = keyC k := law3.inj hkey (key_of k hk)
      have hJ2 : J ks w2 := hJ ks wr w2 (some W.heap.size) hJs hg2 (fun r e => by cases e; exact ⟨Nat.le_refl _, hrg.iter_walk⟩)
      have hga := World.grownBy_alloc w2 (.cells #[.int .i64 k.1, .int .i64 k.2.1, .int .i64 k.2.2] 41) none
      have hJ3' : J ks (w2.alloc (.cells #[.int .i64 k.1, .int .i64 k.2.1, .int .i64 k.2.2] 41)) := hJ ks w2 _ none hJ2 hga (fun r e => by cases e)
      have hrg3' := hrg2.kept hga (by simp) (by simp)
      obtain ⟨fn, tmps, assign, body, hy, hR⟩ := hY ks k _ hJ3' (by omega)
      have hC2 := hC.step hlk hat
      clear hs2 hJ3' hga hkey hat hv hlk hpk hJ2 hrg2
      dsimp only [keyC, id] at hen hR hy ⊢
      gi_wp2
      refine hR.mono ?_
      rintro e W3 (⟨rfl, hJ3, hk3⟩ | ⟨rfl, hJx3⟩)
      · gi_wp2
        have hrg3 := hrg3'.of_walks hk3
        go_roundw
        case rel => exact ⟨_, cnt2, ks ++ [k], hrg3, by simp; omega, by rw [List.map_append]; exact hC2, (fun j hj => (List.mem_append.1 hj).elim (hin j) (fun h => by rw [List.mem_singleton.1 h]; exact hk)), hJ3⟩
        case measure => rw [hrg3.left_eq, hrg.left_eq]; exact hlt
      · gi_wp2
        refine bodyPost_ret (results_none rfl _ _ _) rfl ?_
        exact ⟨⟨_, rfl⟩, .inr ⟨_, trivial, hJx3⟩⟩
theorem keys_stopsK (n Bs b : Nat) (h1 : 1 ≤ n) (es : List Ent) (w : World) (hBs : w.cell? ⟨Bs, 0, none⟩ = some (.map (some b))) (hM : BMap w b es) (hkeys : ∀ p ∈ es, ∃ k, InK k ∧ p.1 = kb k) :
    SeqStopsK Fence.wide n Try.prog 68 #[.pointer (some ⟨Bs, 0, none⟩)] (fun k : K3 => #[keyC k]) KeepsWalks (AllKeys es) (fun _ => True) es.length w :=
  fun l J Jx W hW hJ _ hY h0 => keys1_in n l Bs b h1 es J Jx W hJ hY ((hW.cell (p := ⟨Bs, 0, none⟩) (lt_of_cell hBs)).trans hBs) (hM.below hW) hkeys h0
end Go.Proofs.Ytngkfopdlkddnaa
namespace Go.Proofs.Ytngkfopdlkddnaa
open Go.RowKit Go.Maps
theorem eqL_len {a b : List Fa} (h : a.length ≠ b.length) : eqL a b = false := by
  cases hh : eqL a b with
  | false => rfl
  | true =>
    have := congrArg List.length ((eqL_iff a b).1 hh)
    rw [List.length_map, List.length_map] at this
    exact absurd this h
/-! ### Rows of facts -/
def cellsA (fs : List Fa) : List Value := fs.flatMap fun f => (factC f.1 f.2).toList
theorem cellsA_snoc (fs : List Fa) (f : Fa) : cellsA (fs ++ [f]) = cellsA fs ++ (factC f.1 f.2).toList := by unfold cellsA; rw [List.flatMap_append]; simp
theorem cellsA_length (fs : List Fa) : (cellsA fs).length = fs.length * 18 := by
  induction fs with
  | nil => rfl
  | cons x r ih =>
    show ((factC x.1 x.2).toList ++ cellsA r).length = _
    have h18 : (factC x.1 x.2).toList.length = 18 := rfl
    rw [List.length_append, ih, h18, List.length_cons]
    omega
theorem cellsA_get (fs : List Fa) (i j : Nat) (hi : i < fs.length) (hj : j < 18) : (cellsA fs)[i * 18 + j]? = (factC (fs.getD i zeroA).1 (fs.getD i zeroA).2)[j]? := by
  induction fs generalizing i with
  | nil => simp at hi
  | cons f r ih =>
    show ((factC f.1 f.2).toList ++ cellsA r)[i * 18 + j]? = _
    have h18 : (factC f.1 f.2).toList.length = 18 := rfl
    cases i with
    | zero =>
      rw [List.getElem?_append_left (by rw [h18]; omega), Nat.zero_mul, Nat.zero_add]
      simp
    | succ i =>
      rw [List.getElem?_append_right (by rw [h18]; omega), h18, show (i + 1) * 18 + j - 18 = i * 18 + j by omega]
      rw [ih i (by simpa using hi)]
      simp
theorem cellsF_eq (fs : List OkF) : cellsF fs = cellsA (fs.map (·.1)) := by
  unfold cellsF cellsA
  rw [List.flatMap_map]
def RowA (w : World) (base : Nat) (v : Value) (fs : List Fa) : Prop := w.ownsRow base 29 18 v fs.length (cellsA fs)
theorem RowF.rowA {w : World} {base : Nat} {v : Value} {fs : List OkF} (h : RowF w base v fs) : RowA w base v (fs.map (·.1)) := by
  unfold RowF at h
  unfold RowA
  rw [List.length_map, ← cellsF_eq]
  exact h
theorem RowA.slice {w : World} {base : Nat} {v : Value} {fs : List Fa} (h : RowA w base v fs) : ∃ A cap, v = .slice A fs.length cap ∧ fs.length ≤ cap ∧ FactsS w A fs := by
  rcases h.2 with ⟨rfl, h0⟩ | ⟨g, cap, cur, rfl, _, hg, hcap, _, _, htake⟩
  · refine ⟨none, 0, by rw [h0], by omega, .inl (List.length_eq_zero_iff.1 h0)⟩
  · refine ⟨some ⟨g, 0, none⟩, cap, rfl, hcap, .inr ⟨g, 0, rfl, fun i hi j x hx => ?_⟩⟩
    have hj : j < 18 := (Array.getElem?_eq_some_iff.1 hx).1
    rw [cell_of_row _ _ _ _ _ _ hg, Nat.zero_add]
    have h1 := cellsA_get fs i j hi hj
    rw [hx] at h1
    rw [← htake, List.getElem?_take] at h1
    split at h1
    · rw [← h1, Array.getElem?_toList]
    · cases h1
theorem RowA.below {w w' : World} {base : Nat} {v : Value} {fs : List Fa} (h : RowA w base v fs) (hb : Below w.heap.size w w') : RowA w' base v fs := by
  refine ⟨h.1, ?_⟩
  rcases h.2 with h0 | ⟨g, cap, cur, hv, hbg, hg, r⟩
  · exact .inl h0
  · exact .inr ⟨g, cap, cur, hv, hbg, (hb.block g (Array.getElem?_eq_some_iff.1 hg).1).trans hg, r⟩
theorem RowA.nil (w : World) (base : Nat) : RowA w base (.slice none 0 0) [] := World.ownsRow_nil _ _ _ _
theorem RowA.lt {w : World} {base : Nat} {v : Value} {fs : List Fa} (h : RowA w base v fs) : ∀ k, v.ownBlock = some k → base ≤ k := fun k e => (World.ownsRow.lt h k e).1
theorem appendA (base : Nat) (w : World) {v : Value} {l : List Fa} (hv : RowA w base v l) (f : Fa) (g : Nat) (hg : w.heap[g]? = some (.cells (factC f.1 f.2) 29 (0, 0))) (hb : base ≤ w.heap.size) (hlen : l.length ≤ 1000000) (ty : TypeId) :
    ∃ v' w', (Builtin.append_ #[23, 23] ty #[v, .slice (some ⟨g, 0, none⟩) 1 1]).run Try.prog w = .ok v' w' ∧ RowA w' base v' (l ++ [f]) ∧ w.grownBy w' v.ownBlock := by
  obtain ⟨i0, hi, hz0, hz1, hz2⟩ := info_parts infoF
  have hone := factC_one f.1 f.2
  have h18 : (factC f.1 f.2).toList.length = 1 * 18 := rfl
  obtain ⟨v', w', hr, ho, hgr, _, _⟩ := run_append_own_at w base 23 ty 29 i0 _ 18 152 Try.underlying23 hi hz0 hz1 hz2 rfl (by decide) v l.length (cellsA l) hv ⟨g, 0, none⟩ 1 1 (factC f.1 f.2).toList h18 (World.news_of_block hg)
    (fun u hu => Array.all_eq_true_iff_forall_mem.1 hone u (Array.mem_def.2 hu)) (by unfold maxLen; omega) (by omega) hb
  refine ⟨v', w', hr, ?_, hgr⟩
  unfold RowA
  rw [List.length_append, cellsA_snoc]
  exact ho

/-! ### cut -/
/-- A fact with a text of at most 2100 bytes. -/
def cutA (f : Fa) : Fa := (f.1, f.2.extract 0 (min f.2.size 2100))
/-- What cut returns. -/
def cutL (l : List Fa) : List Fa := (l.take 25).map cutA
theorem cutL_length (l : List Fa) : (cutL l).length ≤ 25 := by unfold cutL; rw [List.length_map, List.length_take]; omega
theorem cutL_succ (l : List Fa) (k : Nat) (h : k < l.length) : (l.take (k + 1)).map cutA = (l.take k).map cutA ++ [cutA (l.getD k zeroA)] := by
  rw [List.take_succ_eq_append_getElem h, List.map_append, List.getD_eq_getElem?_getD, List.getElem?_eq_getElem h]
  rfl
theorem wpList_build1 {P : Program} {ops : Array Oper} {rest : List Oper} {o : Oper} {a : Act} {w : World} {Q : Exit → Act → World → Prop} (hgd : o.guard = none) (t : TypeId) (x : Operand) (ho : o.op = .buildSlice t 1 #[(0, x)])
    (u : Value) (hx : a.eval x = u) {v' : Value} {w' : World} (hr : (Instr.buildSlice t 1 #[(0, u)]).run P w = .ok v' w') (h : wpList P ops Q rest (a.put o.dst v') w') : wpList P ops Q (o :: rest) a w :=
  wpList_plain hgd fun _ hK => by
    unfold Oper.wp execOp
    simp only [ho, hx, List.map_toArray, List.map_cons, List.map_nil, Sem.run_bind, Sem.run_pure, Result.andThen_ok, hr]
    exact hK _ _ h
theorem cutA_text (t : ByteArray) : t.extract 0 (min (t.size : Int) 2100).toNat = (cutA (zeroA.1, t)).2 := by
  show _ = t.extract 0 (min t.size 2100)
  congr 1
  omega
/-! ### of -/
theorem addAll_succ (l : List Fa) (k : Nat) (h : k < l.length) : ofL (l.take (k + 1)) = plusE (ofL (l.take k)) (l.getD k zeroA) := by
  unfold ofL addAll
  rw [List.take_succ_eq_append_getElem h, List.foldl_append, List.getD_eq_getElem?_getD, List.getElem?_eq_getElem h]
  rfl
end Go.Proofs.Ytngkfopdlkddnaa
