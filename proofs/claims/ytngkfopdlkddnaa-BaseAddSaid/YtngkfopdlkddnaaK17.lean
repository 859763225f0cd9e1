/- Contracts of package factset's New, apart, put, Has, Get and Len: a set is a block that holds a map. | The contract of package factset's Add. Condition: the table of constants reads as the program lays it. | The contract of package factset's pairs: an iterator that yields the IDs and the elements of a set, ascending, to whatever body that keeps what it does not own. | The contracts of package factset's IDs and Facts. | The contract of package factset's Facts. -/
import Derived.Test.YtngkfopdlkddnaaK12
import Derived.Test.YtngkfopdlkddnaaK15
import Derived.Test.YtngkfopdlkddnaaK16
import Derived.Maps.OwnOps
import Derived.Maps.OwnSet
import Derived.StringKeys
import Derived.Shelf.Abstract
import Derived.Shelf.RegionOpen
import Derived.RangeFuncNested
import Derived.RangeFuncBound
import Derived.RangeFuncCalls
import Derived.RangeFuncLeaves
import Derived.RangeFuncBox
import Derived.WalkKit
import Derived.OwnWalkIn
import Derived.TacticsInMore
import Derived.LoopNIn
import Derived.LoopIn
import Derived.Deep.DeepAppendRoom
import Derived.Laws.MakeOwn
import Derived.Deep.AppendLies
import Derived.Great.BuildSlice
namespace Go.Proofs.Ytngkfopdlkddnaa
open Go.RowKit Go.Maps
theorem owns_tight {H : Type} {P : Program} {k : TypeId} {R : Value → Option (DataW H × List MemPlace)} {w : World} {b n : Nat} {D : DataW H} (h : w.ownsMap P k R b n D) : w.ownsMap P k R b (Maps.size D) D := by
  obtain ⟨es, clock, hb, F, _, rfl⟩ := h
  refine ⟨es, clock, hb, F, ?_, rfl⟩
  rw [Maps.size_eq, length_sorted, List.length_map]
  simp
/-- The zero fact. -/
abbrev zeroA : Fa := (fun _ => 0, ⟨#[]⟩)
theorem zero_fact (w : World) : (zeroValue 29).run Try.prog w = .ok (valF zeroA) w := Try.zeroValue29 w
theorem key_lit {s : ByteArray} (hs : s.size ≤ maxLen) : keyOf Try.prog 9 (.string s) = some (.string s.data.toList) := WideMaps.keyOf_string_mk Try.underlying9 hs
/-- What a look-up gives. -/
def lookE (es : List Ent) (k : List UInt8) : Value := (getE es k).getD (valF zeroA)
theorem look_fact {es : List Ent} (h : Facts es) (k : List UInt8) : ∃ f : Fa, lookE es k = valF f := by
  unfold lookE
  cases hg : getE es k with
  | none => exact ⟨zeroA, rfl⟩
  | some x =>
    obtain ⟨f, _, e⟩ := h _ (getE_mem hg)
    exact ⟨f, congrArg Prod.snd e⟩

/-! ### apart -/
theorem text_row {W : World} {b : Nat} {g : Nat → Int} {t : ByteArray} (s : ByteArray) (h : W.heap[b]? = some (.cells (factC g t) 29 (0, 0))) : (W.setCell ⟨b, 17, none⟩ (.string s)).heap[b]? = some (.cells (factC g s) 29 (0, 0)) := by
  rw [heap_setCell_same _ _ _ _ _ _ h]; rfl
theorem cell_aside {W : World} {b d : Nat} {o : Obj} (i : Nat) (x : Value) (hd : b ≠ d) (h : W.heap[b]? = some o) : (W.setCell ⟨d, i, none⟩ x).heap[b]? = some o := by
  exact (heap_setCell_other _ _ _ _ hd).trans h
set_option maxRecDepth 100000 in
theorem Clone_calls (s : ByteArray) (w : World) (hlim : s.size ≤ 281474976710656) : Calls Try.prog 65 #[.string s] w fun e W' => e = .returned (.string s) ∧ Below w.heap.size w W' := by
  have HC := Lib.hid (stringslite_Clone s w hlim)
  go_enter Try.func65, Try.ntmps65
  go_wp2_with fail
  refine HC.out.mono ?_
  rintro e W1 ⟨rfl, b1⟩
  go_wp2_with fail
  go_ret
  exact ⟨rfl, b1⟩

set_option maxRecDepth 100000 in
theorem apart_calls (v : Nat → Int) (t : ByteArray) (w : World) (ht : t.size ≤ 281474976710656) : Calls Try.prog 46 #[.agg (factC v t)] w fun e W' => e = .returned (.agg (factC v t)) ∧ Below w.heap.size w W' := by
  have HC := Lib.hid (fun W => Clone_calls t W ht)
  go_enter Try.func46, Try.ntmps46
  go_upto_region 1 with (fail)
  obtain ⟨W0, hW0, f0, f1, b0⟩ := two_rows w (factC v t) (factC (fun _ => 0) ⟨#[]⟩) 29 29
  rw [hW0]
  clear hW0
  have F0 := Lib.hid f0
  have F1 := Lib.hid f1
  have B0 := Lib.hid b0
  have c17 := (row18 f0).2.2.2.2.2.2.2.2.2.2.2.2.2.2.2.2.2
  clear f0 f1 b0
  go_wp2_with fail
  refine (HC.out _).mono ?_
  rintro e W1 ⟨rfl, b1⟩
  have G0 := Lib.hid (Hl.row b1 F0.out)
  have G1 := Lib.hid (Hl.row b1 F1.out)
  have B1 := Lib.hid b1
  have cc : W1.cell? ⟨w.heap.size, 17, none⟩ = some (.string t) := by rw [cell_of_row _ _ _ _ _ _ G0.out]; rfl
  have cf : W1.frozen? ⟨w.heap.size, 17, none⟩ = false := frozen_of_row _ _ _ _ _ G0.out
  clear b1 c17
  go_upto_region 2 with (fail)
  obtain ⟨W2, hW2, F2, G2, B2⟩ : ∃ W2, W1.setCell ⟨w.heap.size, 17, none⟩ (.string t) = W2 ∧ Hid (W2.heap[w.heap.size]? = some (.cells (factC v t) 29 (0, 0))) ∧ Hid (W2.heap[w.heap.size + 1]? = some (.cells (factC (fun _ => 0) ⟨#[]⟩) 29 (0, 0))) ∧ Hid (Below w.heap.size w W2) :=
    ⟨_, rfl, Lib.hid (text_row t G0.out), Lib.hid (cell_aside 17 _ (by omega) G1.out), Lib.hid ((B0.out.trans (Below.mono B1.out B0.out.size)).setCell (p := ⟨w.heap.size, 17, none⟩) (Nat.le_refl _) _)⟩
  rw [hW2]
  clear hW2 G0 G1 B1 F0 F1 B0 cc cf
  have hone := factC_one v t
  go_wp2_with (first
    | refine wpList_load_row rfl 29 _ rfl w.heap.size rfl _ _ _ _ F2.out Try.underlying29 rfl (hiC _ _) ?_
    | refine wpList_store_row rfl 29 _ _ rfl (w.heap.size + 1) (factC v t) rfl rfl 29 _ G2.out (hiC _ _) rfl hone ?_)
  refine bodyPost_ret (v := .agg (factC v t)) ?_ rfl ?_
  · exact results_cell_row rfl _ _ (w.heap.size + 1) 29 _ (0, 0) _ rfl (setRow_heap _ (w.heap.size + 1) _ _ 29 (0, 0) G2.out) Try.underlying29 rfl (hiC _ _)
  · exact ⟨rfl, below_setRow' B2.out _ _ (by omega)⟩

theorem has_look {es : List Ent} {k : List UInt8} (h : hasE es k = false) : lookE es k = valF zeroA := by
  unfold hasE at h
  unfold lookE
  cases hg : getE es k with
  | none => rfl
  | some x => rw [hg] at h; cases h
theorem has_get {es : List Ent} {k : List UInt8} (h : hasE es k = true) : getE es k = some (lookE es k) := by
  unfold hasE at h
  unfold lookE
  cases hg : getE es k with
  | none => rw [hg] at h; cases h
  | some x => rfl
theorem good_text {f : Fa} (h : okA f = true) : f.2.size ≤ 65536 := okT_size h
/-! ### put -/
theorem grown_after {w W1 W2 : World} {row : Option Nat} (hb : Below w.heap.size w W1) (hg : W1.grownBy W2 row) : w.grownBy W2 row :=
  ⟨hg.os.trans hb.os, hg.tape.trans hb.tape, hg.output.trans hb.output, Nat.le_trans hb.size hg.size, fun k hk hr => (hg.block k (Nat.lt_of_lt_of_le hk hb.size) hr).trans (hb.block k hk)⟩
theorem grown_but {a c : World} (h : a.grownBy c none) (row : Option Nat) : a.grownBy c row := ⟨h.os, h.tape, h.output, h.size, fun i hi _ => h.block i hi (by simp)⟩
/-- Whether a fact is new, and the error. -/
def plusB (es : List Ent) (f : Fa) : Bool := okA f && !hasE es (keyF f) && decide (es.length < 4000)
def plusN (es : List Ent) (f : Fa) : Int := if okA f = true then if hasE es (keyF f) = true then 0 else if es.length < 4000 then 0 else 60 else 60

theorem key_bytes (f : Fa) : (⟨(keyF f).toArray⟩ : ByteArray).data.toList = keyF f := by simp
end Go.Proofs.Ytngkfopdlkddnaa
namespace Go.Proofs.Ytngkfopdlkddnaa
open Go.RowKit Go.Maps Go.Sort Go.Shelf
attribute [local go_sem] Oper.semAt_some

/-- A valid fact. -/
abbrev OkF := {f : Fa // okA f = true}
def entF (x : OkF) : Ent := (keyF x.1, valF x.1)
theorem facts_list {es : List Ent} (h : Facts es) : ∃ fs : List OkF, es = fs.map entF := by
  induction es with
  | nil => exact ⟨[], rfl⟩
  | cons p r ih =>
    obtain ⟨fs, e⟩ := ih (fun q hq => h q (List.mem_cons_of_mem _ hq))
    obtain ⟨f, ho, e2⟩ := h p (List.mem_cons_self ..)
    exact ⟨⟨f, ho⟩ :: fs, by rw [e, e2]; rfl⟩
/-- What a body keeps that owns two blocks: whatever lay ahead, and all cells, but for these two. -/
def KeepX (n₀ g B : Nat) (W W' : World) : Prop := W.heap.size ≤ W'.heap.size ∧ ∀ (k : Nat) (o : Obj), k ≠ g → k ≠ B → W.heap[k]? = some o → (k < n₀ ∨ o.isCells = true) → W'.heap[k]? = some o
theorem KeepX.refl (n₀ g B : Nat) (W : World) : KeepX n₀ g B W W := ⟨Nat.le_refl _, fun _ _ _ _ h _ => h⟩
theorem KeepX.trans {n₀ g B : Nat} {X Y Z : World} (h : KeepX n₀ g B X Y) (k : KeepX n₀ g B Y Z) : KeepX n₀ g B X Z :=
  ⟨Nat.le_trans h.1 k.1, fun i o h1 h2 h3 h4 => k.2 i o h1 h2 (h.2 i o h1 h2 h3 h4) h4⟩
theorem KeepX.put {n₀ g B : Nat} (W : World) (l : Nat) (o o' : Obj) (hl : n₀ ≤ l) (h : W.heap[l]? = some o) (ho : o.isCells = false) : KeepX n₀ g B W (W.putObj l o') := by
  refine ⟨by simp, fun k u _ _ hk hu => ?_⟩
  have hne : k ≠ l := fun e => by
    subst e
    rw [h] at hk; cases hk
    rcases hu with hu | hu
    · omega
    · rw [ho] at hu; cases hu
  rw [World.putObj_heap_other hne]; exact hk
theorem KeepX.cell {n₀ g B : Nat} {W W' : World} (h : KeepX n₀ g B W W') {a : Addr} {v : Value} (h1 : a.block ≠ g) (h2 : a.block ≠ B) (hc : W.cell? a = some v) : W'.cell? a = some v := by
  unfold World.cell? at hc ⊢
  cases hb : W.heap[a.block]? with
  | none => rw [hb] at hc; cases hc
  | some o =>
    cases o <;> rw [hb] at hc <;> first
      | (rw [h.2 a.block _ h1 h2 hb (.inr rfl)]; exact hc)
      | cases hc
theorem wide_at {n : Nat} {P : Program} {f : FuncId} {args : Array Value} {w : World} {R : Ending → World → Prop} (m : Nat) (h : CallsIn Fence.wide n P f args w R) : CallsIn Fence.wide m P f args w R := callsIn_wide.2 (callsIn_wide.1 h)

abbrev encP (x : OkF) : Array Value := #[.string ⟨(keyF x.1).toArray⟩, valF x.1]
end Go.Proofs.Ytngkfopdlkddnaa
namespace Go.Proofs.Ytngkfopdlkddnaa
open Go.RowKit Go.Maps Go.Sort Go.Shelf
attribute [local go_sem] Oper.semAt_some

theorem infoS : (Try.prog.info? 9).map (fun i => (i.zero, i.size, i.bytes)) = some (some (.string ⟨#[]⟩), 1, 16) := by kernel_rfl
theorem wide_of {P : Program} {f : FuncId} {args : Array Value} {w : World} {R : Ending → World → Prop} (m : Nat) (h : Calls P f args w R) : CallsIn Fence.wide m P f args w R := callsIn_wide.2 h
theorem own_row {W W' : World} {base : Nat} {e : TypeId} {size g n c k : Nat} {xs : List Value} {row : Option Nat} (h : W.ownsRow base e size (.slice (some ⟨g, 0, none⟩) n c) k xs) (hg : W.grownBy W' row)
    (hr : ∀ r, row = some r → ∃ o : Obj, W.heap[r]? = some o ∧ o.isCells = false) : W'.ownsRow base e size (.slice (some ⟨g, 0, none⟩) n c) k xs := by
  refine row_keep h ?_
  rcases h.2 with ⟨h0, _⟩ | ⟨g', cap', cur, hv, hbg, hgg, _⟩
  · cases h0
  · cases hv
    refine hg.block g (Array.getElem?_eq_some_iff.1 hgg).1 (fun e => ?_)
    obtain ⟨o, h1, h2⟩ := hr g e.symm
    rw [hgg] at h1; cases h1; cases h2
theorem own_box {W W' : World} {B : Nat} {t : TypeId} {v : Value} {row : Option Nat} (h : Boxed W B t v) (hg : W.grownBy W' row) (hr : ∀ r, row = some r → ∃ o : Obj, W.heap[r]? = some o ∧ o.isCells = false) : Boxed W' B t v :=
  h.kept hg (fun e => by
    obtain ⟨o, h1, h2⟩ := hr B e.symm
    unfold Boxed at h
    rw [h] at h1; cases h1; cases h2)
theorem one_str (k : ByteArray) : ∀ u ∈ (#[.string k] : Array Value).toList, u.oneCell' = true := by intro u hu; rw [List.mem_singleton.1 hu]; rfl
theorem stepIn_append_run {F : Fence} {n : Nat} {P : Program} {ops : Array Oper} {o : Oper} {a : Act} {w : World} {K : Act → World → Prop} {Q : Exit → Act → World → Prop} {E : Prop} (hgd : o.guard = none) (s x : Operand) (t : TypeId)
    (ho : o.op = .call { callee := .builtin .append, args := #[s, x], argTypes := #[t, t] }) (v u : Value) (hs : a.eval s = v) (hx : a.eval x = u) {v' : Value} {w' : World}
    (hr : (Builtin.append_ #[t, t] o.type #[v, u]).run P w = .ok v' w') (h : K (a.put o.dst v') w') : if Region.wanted o (yielded ops a.tmps) = true then Oper.wpIn F n P o a w K Q else E := by
  have hw : Region.wanted o (yielded ops a.tmps) = true := by simp [Region.wanted, hgd]
  rw [if_pos hw]
  unfold Oper.wpIn
  refine ⟨by simp [Oper.about, ho, resolve, Target.leads, Sem.run_pure], ?_⟩
  rw [Oper.semAt_plain F _ _ (by rw [ho]; intro c hc'; cases hc')]
  simp [execOp, ho, resolve, invoke, builtin, hs, hx, hr, Result.andThen]
  exact h
/-- What an append in place and a store into its box leave. -/
theorem append_post (t e : TypeId) (i : TypeInfo) (size : Nat) (ht : Try.prog.underlying t = some (.slice e)) (hi : Try.prog.info? e = some i) (hsize : i.size = size) (base n₀ g B n cap : Nat) (xs : List Value) (cs : Array Value) (w W W3 : World)
    (hr : W.ownsRow base e size (.slice (some ⟨g, 0, none⟩) n cap) n xs) (hx : Boxed W B t (.slice (some ⟨g, 0, none⟩) n cap)) (hB : Below base w W) (hcs : cs.size = size) (hone : ∀ u ∈ cs.toList, u.oneCell' = true) (hroom : n + 1 ≤ cap)
    (hne : g ≠ B) (hg : g < n₀) (hBn : B < n₀) (hgb : base ≤ g) (hBb : base ≤ B) (b3 : Below W.heap.size W W3) :
    W3.cell? ⟨B, 0, none⟩ = some (.slice (some ⟨g, 0, none⟩) n cap) ∧ (W3.alloc (.cells cs e)).cell? ⟨B, 0, none⟩ = some (.slice (some ⟨g, 0, none⟩) n cap) ∧ ∃ w5, (Builtin.append_ #[t, t] t #[.slice (some ⟨g, 0, none⟩) n cap, .slice (some ⟨W3.heap.size, 0, none⟩) 1 1]).run Try.prog (W3.alloc (.cells cs e)) = .ok (.slice (some ⟨g, 0, none⟩) (n + 1) cap) w5 ∧
      w5.cell? ⟨B, 0, none⟩ = some (.slice (some ⟨g, 0, none⟩) n cap) ∧ w5.frozen? ⟨B, 0, none⟩ = false ∧
      Hid (KeepsFrom n₀ W (w5.setCell ⟨B, 0, none⟩ (.slice (some ⟨g, 0, none⟩) (n + 1) cap)) ∧ KeepX n₀ g B W (w5.setCell ⟨B, 0, none⟩ (.slice (some ⟨g, 0, none⟩) (n + 1) cap)) ∧
        ((w5.setCell ⟨B, 0, none⟩ (.slice (some ⟨g, 0, none⟩) (n + 1) cap)).ownsRow base e size (.slice (some ⟨g, 0, none⟩) (n + 1) cap) (n + 1) (xs ++ cs.toList) ∧ Boxed (w5.setCell ⟨B, 0, none⟩ (.slice (some ⟨g, 0, none⟩) (n + 1) cap)) B t (.slice (some ⟨g, 0, none⟩) (n + 1) cap)) ∧
        Below base w (w5.setCell ⟨B, 0, none⟩ (.slice (some ⟨g, 0, none⟩) (n + 1) cap))) := by
  have hBl := hx.lt
  have hgl : g < W.heap.size := by
    rcases hr.2 with ⟨h0, _⟩ | ⟨g', cap', cur, hv, hbg, hgg, _⟩
    · cases h0
    · cases hv; exact (Array.getElem?_eq_some_iff.1 hgg).1
  have b4 : Below W.heap.size W (W3.alloc (.cells cs e)) := b3.alloc b3.size _
  have hr4 := row_keep hr (b4.block g hgl)
  have hx4 : Boxed (W3.alloc (.cells cs e)) B t (.slice (some ⟨g, 0, none⟩) n cap) := (b4.block B hBl).trans hx
  obtain ⟨w5, hrun, hr5, hg5⟩ := run_append_own_spare (P := Try.prog) (W3.alloc (.cells cs e)) base t t e i size ht hi hsize g n cap xs hr4 ⟨W3.heap.size, 0, none⟩ 1 1 cs.toList (by rw [Array.length_toList, hcs, Nat.one_mul]) (World.news_of_block (heap_alloc_new W3 _)) hone hroom
  have hx5 : Boxed w5 B t (.slice (some ⟨g, 0, none⟩) n cap) := hx4.kept hg5 (fun e => hne (Option.some.inj e).symm)
  have hx3 : Boxed W3 B t (.slice (some ⟨g, 0, none⟩) n cap) := (b3.block B hBl).trans hx
  refine ⟨hx3.cell, hx4.cell, w5, hrun, hx5.cell, hx5.frozen, Lib.hid ?_⟩
  have hfar : ∀ k, k < W.heap.size → k ≠ g → k ≠ B → (w5.setCell ⟨B, 0, none⟩ (.slice (some ⟨g, 0, none⟩) (n + 1) cap)).heap[k]? = W.heap[k]? := fun k hk h1 h2 => by
    rw [heap_setCell_other _ _ _ _ h2, hg5.block k (Nat.lt_of_lt_of_le hk b4.size) (fun e => h1 (Option.some.inj e)), b4.block k hk]
  have hsz : W.heap.size ≤ (w5.setCell ⟨B, 0, none⟩ (.slice (some ⟨g, 0, none⟩) (n + 1) cap)).heap.size := by
    have h1 := hg5.size
    have h2 := b4.size
    simp only [World.size_setCell]
    omega
  refine ⟨⟨hsz, fun k o hk ho _ => ?_⟩, ⟨hsz, fun k o h1 h2 ho _ => ?_⟩, ⟨row_keep hr5 (heap_setCell_other _ _ _ _ hne), ?_⟩, ?_⟩
  · rw [hfar k (Array.getElem?_eq_some_iff.1 ho).1 (by omega) (by omega)]; exact ho
  · rw [hfar k (Array.getElem?_eq_some_iff.1 ho).1 h1 h2]; exact ho
  · show _ = _
    rw [heap_setCell_same _ _ _ _ _ _ hx5]
    rfl
  · have hbW : base ≤ W.heap.size := by omega
    have h6 : Below base w w5 := (hB.trans (b4.mono hbW)).grown hg5 (Nat.le_trans hbW b4.size) (fun j e => by cases e; exact hgb)
    exact h6.setCell (p := ⟨B, 0, none⟩) hBb _
attribute [local go_sem] Oper.semAt_some

theorem stepIn_load_row {F : Fence} {n : Nat} {P : Program} {ops : Array Oper} {o : Oper} {a : Act} {w : World} {K : Act → World → Prop} {Q : Exit → Act → World → Prop} {E : Prop} (hgd : o.guard = none) (ty : TypeId) (x : Operand) (ho : o.op = .load ty x)
    (g : Nat) (hx : a.eval x = .pointer (some ⟨g, 0, none⟩)) (t : TypeId) (cs : Array Value) (fr : Nat × Nat) (d : TypeDesc) (hg : w.heap[g]? = some (.cells cs t fr))
    (hu : P.underlying ty = some d) (hd : (match d with | .struct _ | .array _ _ => true | _ => false) = true) (hi : (P.info? ty).map (·.size) = some cs.size)
    (h : K (a.put o.dst (.agg cs)) w) : if Region.wanted o (yielded ops a.tmps) = true then Oper.wpIn F n P o a w K Q else E := by
  have hw : Region.wanted o (yielded ops a.tmps) = true := by simp [Region.wanted, hgd]
  rw [if_pos hw]
  refine ⟨by simp [Oper.about, ho], ?_⟩
  rw [Oper.semAt_plain F _ _ (by rw [ho]; intro c hc; cases hc)]
  simp only [execOp, ho, hx, Instr.loadAt, Instr.sureAddr, Sem.run_bind, Sem.run_pure, Result.andThen_ok, run_loadVar_row w g t ty cs fr d hg hu hd hi]
  exact h
theorem stepIn_build {F : Fence} {n : Nat} {P : Program} {ops : Array Oper} {o : Oper} {a : Act} {w : World} {K : Act → World → Prop} {Q : Exit → Act → World → Prop} {E : Prop} (hgd : o.guard = none) (t : TypeId) (x : Operand) (ho : o.op = .buildSlice t 1 #[(0, x)])
    (u : Value) (hx : a.eval x = u) {v' : Value} {w' : World} (hr : (Instr.buildSlice t 1 #[(0, u)]).run P w = .ok v' w')
    (h : K (a.put o.dst v') w') : if Region.wanted o (yielded ops a.tmps) = true then Oper.wpIn F n P o a w K Q else E := by
  have hw : Region.wanted o (yielded ops a.tmps) = true := by simp [Region.wanted, hgd]
  rw [if_pos hw]
  refine ⟨by simp [Oper.about, ho], ?_⟩
  rw [Oper.semAt_plain F _ _ (by rw [ho]; intro c hc; cases hc)]
  simp only [execOp, ho, hx, List.map_toArray, List.map_cons, List.map_nil, Sem.run_bind, Sem.run_pure, Result.andThen_ok, hr]
  exact h
theorem build_fact (v : Nat → Int) (t : ByteArray) (w : World) : (Instr.buildSlice 23 1 #[(0, .agg (factC v t))]).run Try.prog w = .ok (.slice (some ⟨w.heap.size, 0, none⟩) 1 1) (w.alloc (.cells (factC v t) 29)) := by
  obtain ⟨i0, hi, hz0, hz1, hz2⟩ := info_parts (show (Try.prog.info? 29).map (fun i => (i.zero, i.size, i.bytes)) = some (some (.agg (factC (fun _ => 0) ⟨#[]⟩)), 18, 152) by kernel_rfl)
  refine run_buildSlice w _ _ 1 _ (factC v t) i0 _ Try.underlying23 hi hz0 (by rw [hz1]; decide) (by rw [hz1]; decide) ?_
  rw [hz1]
  kernel_rfl
theorem infoF : (Try.prog.info? 29).map (fun i => (i.zero, i.size, i.bytes)) = some (some (.agg (factC (fun _ => 0) ⟨#[]⟩)), 18, 152) := by kernel_rfl
/-- The cells of facts, one after the other. -/
def cellsF (fs : List OkF) : List Value := fs.flatMap fun x => (factC x.1.1 x.1.2).toList
theorem cellsF_snoc (fs : List OkF) (x : OkF) : cellsF (fs ++ [x]) = cellsF fs ++ (factC x.1.1 x.1.2).toList := by unfold cellsF; rw [List.flatMap_append]; simp
theorem cellsF_length (fs : List OkF) : (cellsF fs).length = fs.length * 18 := by
  induction fs with
  | nil => rfl
  | cons x r ih =>
    show ((factC x.1.1 x.1.2).toList ++ cellsF r).length = _
    have h18 : (factC x.1.1 x.1.2).toList.length = 18 := rfl
    rw [List.length_append, ih, h18, List.length_cons]
    omega
/-- A row of facts of one's own. -/
def RowF (w : World) (base : Nat) (v : Value) (fs : List OkF) : Prop := w.ownsRow base 29 18 v fs.length (cellsF fs)
end Go.Proofs.Ytngkfopdlkddnaa
