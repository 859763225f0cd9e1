/- A law for ranging over a function that writes memory of its own between two rounds: the caller's invariant speaks only of what lay there when the loop began; each round changes one block of the caller's and lays new ones. | The iterator that package digest's blocks returns: it yields the blocks of 64 bytes of the parts, one after the other. | The contract of package digest's padding: what a string of that many bytes is extended by. Condition: at most 10^15 bytes. | The contract of package digest's sum: the SHA-256 of the parts, one after the other. Conditions: the slice of the parts was made for this call; the table of constants reads as the program lays it; at most 10^12 bytes. | The contracts of package digest's Sum, Leaf, Node and Chain: they return the plain digests. Conditions: the table of constants reads as the program lays it; at most 10^10 bytes each. -/
import Derived.Test.YtngkfopdlkddnaaK09
import Derived.RangeFuncNested
import Derived.RangeFuncBound
import Derived.RangeFuncCalls
import Derived.RangeFuncLeaves
import Derived.RangeFuncFrom
import Derived.RangeFuncBox
import Derived.Shelf.Abstract
import Derived.Shelf.RegionOpen
import Derived.OwnWalkIn
import Derived.TacticsInMore
import Derived.LoopNIn
import Derived.LoopIn
import Derived.Laws.BytesArg
import Derived.Scope
import Derived.Lib.BufferWrite
import Derived.Deep.OwnRows
namespace Go.Proofs.Ytngkfopdlkddnaa
open Go.RowKit Go.Shelf
/-- Cells stay as they are, but for one block. -/
def KeepC (g : Nat) (W W' : World) : Prop := W.heap.size ≤ W'.heap.size ∧ ∀ (k : Nat) (o : Obj), k ≠ g → W.heap[k]? = some o → o.isCells = true → W'.heap[k]? = some o
theorem KeepC.trans {g : Nat} {A B C : World} (h : KeepC g A B) (k : KeepC g B C) : KeepC g A C :=
  ⟨Nat.le_trans h.1 k.1, fun i o hi ha ho => k.2 i o hi (h.2 i o hi ha ho) ho⟩
theorem KeepC.put (g : Nat) (W : World) (l : Nat) (o o' : Obj) (h : W.heap[l]? = some o) (ho : o.isCells = false) : KeepC g W (W.putObj l o') := by
  refine ⟨by simp, fun k u _ hk hu => ?_⟩
  have hne : k ≠ l := fun e => by subst e; rw [h] at hk; cases hk; rw [ho] at hu; cases hu
  rw [World.putObj_heap_other hne]; exact hk
theorem KeepC.grown {g : Nat} {W W' : World} (h : W.grownBy W' (some g)) : KeepC g W W' :=
  ⟨h.size, fun k _ hk ho _ => (h.block k (Array.getElem?_eq_some_iff.1 ho).1 (fun e => hk (Option.some.inj e))).trans ho⟩
/-- What an invariant abides: whatever is changed from B on. -/
def AbidesB {β : Type} (B : Nat) (J : β → World → Prop) : Prop := ∀ s W W' row, J s W → W.grownBy W' row → (∀ r, row = some r → B ≤ r) → J s W'
/-- The contract of an iterator that lays and writes blocks of its own. -/
def GivesMem {α : Type} (F : Fence) (n : Nat) (P : Program) (gf : Nat) (lb : Array Value) (encs : α → Array Value) (ok : α → Prop) (g N : Nat) (all : List α) (w : World) : Prop :=
  ∀ (l : Nat) (J : List α → World → Prop) (W : World), w.grownBy W none → w.heap.size ≤ W.heap.size → AbidesB W.heap.size J →
    (∀ pre x W1, ok x → J pre W1 → pre.length < N → YieldAt F (n - 1) P l (encs x) W1 fun e W' => e = .returned (.bool true) ∧ J (pre ++ [x]) W' ∧ KeepC g W1 W') →
    J [] W → CallsIn F n P gf (#[.func (.yield l) #[] #[]] ++ lb) W fun e W' => (∃ v, e = .returned v) ∧ J all W'

set_option maxHeartbeats 1000000 in
theorem wpIn_rangeFunc_mem {F : Fence} {n : Nat} {P : Program} {α : Type} {gop : Operand} {ps : Array Tmp} {assign body : Code} {Q : Exit → Act → World → Prop} {a : Act} {w : World}
    (hro : F.round = none) (h1 : 1 ≤ n) {gf : Nat} {lb : Array Value} (hg : a.eval gop = .func (.func gf) #[] lb) (hFg : F.fn gf) (eg : ∀ args w, (callFunc gf args).run P w = .ok (.enter gf args) w)
    {encs : α → Array Value} (hps : ∀ x, (encs x).size = ps.size) {ok : α → Prop} {g N : Nat} {all : List α} (hgw : g < w.heap.size) (hseq : GivesMem F (n - 1) P gf lb encs ok g N all w)
    (I : List α → World → Prop) (hI : AbidesB w.heap.size I) (h0 : I [] w) (a₁ : α → Nat → Act) (o₁ : α → Obj)
    (hassign : ∀ (l : Nat) (x : α) (W : World) (K : Act → World → Prop), ok x → K (a₁ x W.heap.size) (W.alloc (o₁ x)) →
      assign.wpIn (F.inRound l) (n - 1 - 1) P (Exit.then K (fun _ _ _ => False)) { tmps := (ps.zip (encs x)).foldl (fun t (p, v) => t.setIfInBounds p v) a.tmps, defers := [] } W)
    (hbody : ∀ (l : Nat) (pre : List α) (x : α) (W : World) (B : Nat), ok x → I pre W → pre.length < N → W.heap[B]? = some (o₁ x) → w.heap.size + 2 ≤ B →
      body.wpIn (F.inRound l) (n - 1 - 1) P (fun e _ W' => e = .normal ∧ W.grownBy W' (some g) ∧ I (pre ++ [x]) W') (a₁ x B) W)
    (hdone : ∀ (D : Nat) (W : World), w.heap.size ≤ D → I all W → W.heap[D]? = some (.deferred (some [])) → Q .normal { a with defers := { target := .collected D, args := #[] } :: a.defers } W) :
    (Code.rangeFunc gop ps assign body).wpIn F n P Q a w := by
  refine wpIn_rangeFunc fun fn hfn => ?_
  rw [hro]
  obtain ⟨rc, hrc⟩ : ∃ rc : LoopState → Loop, rc = fun st => { state := st, pending := none, fn, tmps := a.tmps, params := ps, assign, body, defers := w.heap.size } := ⟨_, rfl⟩
  have hpar : ∀ st, (rc st).params = ps := fun st => by rw [hrc]
  have hst : ∀ st, (rc st).state = st := fun st => by rw [hrc]
  have hset : ∀ st st', { rc st with state := st' } = rc st' := fun st st' => by rw [hrc]
  have hend : ∀ st st', { rc st with state := st', pending := none } = rc st' := fun st st' => by rw [hrc]
  obtain ⟨W1, hW1⟩ : ∃ W1, (w.alloc (.deferred (some []))).alloc (.loop (rc .ready)) = W1 := ⟨_, rfl⟩
  have z1 : W1.heap.size = w.heap.size + 2 := by rw [← hW1]; simp
  have hD1 : W1.heap[w.heap.size]? = some (.deferred (some [])) := by
    rw [← hW1, Below.heap_alloc _ _ _ (by simp)]; exact heap_alloc_new w _
  have hL1 : W1.heap[w.heap.size + 1]? = some (.loop (rc .ready)) := by
    rw [← hW1]
    have := heap_alloc_new (w.alloc (.deferred (some []))) (.loop (rc .ready))
    simpa using this
  have hg1 : w.grownBy W1 none := by
    rw [← hW1]
    exact ⟨rfl, rfl, rfl, by simp; omega, fun k hk _ => by rw [Below.heap_alloc _ _ _ (by simp; omega), Below.heap_alloc _ _ _ hk]⟩
  refine ⟨w.heap.size + 1, [{ target := .collected w.heap.size, args := #[] }], W1, { target := .fn (.func gf) lb, args := #[.func (.yield (w.heap.size + 1)) #[] #[]] }, W1, gf,
    #[.func (.yield (w.heap.size + 1)) #[] #[]] ++ lb, W1, ?_, ?_, ?_, ?_, fun _ => h1, ?_⟩
  · rw [← hW1, hrc]; exact run_enterLoop_outer _ _ _ _ _
  · simp only [resolve, hg]
    simp [go_sem]
  · intro f' hf'
    simp [Target.leads] at hf'
    subst hf'
    exact hFg
  · simp [invoke, go_sem, eg]
  refine (hseq (w.heap.size + 1) (fun pre W => (I pre W ∧ w.heap.size + 2 ≤ W.heap.size) ∧ W.heap[w.heap.size + 1]? = some (.loop (rc .ready)) ∧ W.heap[w.heap.size]? = some (.deferred (some []))) W1 hg1 hg1.size
    ?abides ?round ⟨⟨hI _ _ _ none h0 hg1 (fun r e => by cases e), by omega⟩, hL1, hD1⟩).mono ?behind
  case abides =>
    rintro s A B row ⟨⟨hi, hz⟩, hl, hd⟩ hgr hr
    rw [z1] at hr
    have h1 : (some (w.heap.size + 1) : Option Nat) ≠ row := fun e => by have := hr _ e.symm; omega
    have h2 : (some w.heap.size : Option Nat) ≠ row := fun e => by have := hr _ e.symm; omega
    exact ⟨⟨hI s A B row hi hgr (fun r e => by have := hr r e; omega), Nat.le_trans hz hgr.size⟩, (hgr.block _ (by omega) h1).trans hl, (hgr.block _ (by omega) h2).trans hd⟩
  case round =>
    rintro pre x W hok ⟨⟨hi, hz⟩, hl, hd⟩ hlen
    have hy := run_yield (P := P) (args := encs x) hl (by rw [hpar]; exact hps x)
    refine ⟨fn, _, assign, body, by rw [hrc] at hy; exact hy, roundIn_of_wpIn hfn (hassign _ x W _ hok ?_)⟩
    have hlA : (W.alloc (o₁ x)).heap[w.heap.size + 1]? = some (.loop (rc .ready)) := (Below.heap_alloc _ _ _ (by omega)).trans hl
    have hbg := run_beginRound (P := P) hlA (hst _)
    rw [hset] at hbg
    refine ⟨_, hbg, ?_⟩
    obtain ⟨W2, hW2⟩ : ∃ W2, (W.alloc (o₁ x)).putObj (w.heap.size + 1) (.loop (rc .busy)) = W2 := ⟨_, rfl⟩
    rw [hW2]
    have zA : (W.alloc (o₁ x)).heap.size = W.heap.size + 1 := by simp
    have z2 : W2.heap.size = W.heap.size + 1 := by rw [← hW2]; simp
    have gA : W.grownBy (W.alloc (o₁ x)) none := World.grownBy_alloc W _ none
    have g2 : (W.alloc (o₁ x)).grownBy W2 (some (w.heap.size + 1)) := by rw [← hW2]; exact grownBy_putObj' _ _ _
    have hl2 : W2.heap[w.heap.size + 1]? = some (.loop (rc .busy)) := by rw [← hW2]; exact World.putObj_heap_same (by rw [zA]; omega)
    have hd2 : W2.heap[w.heap.size]? = some (.deferred (some [])) := by
      rw [← hW2, World.putObj_heap_other (by omega), Below.heap_alloc _ _ _ (by omega)]; exact hd
    have hB2 : W2.heap[W.heap.size]? = some (o₁ x) := by
      rw [← hW2, World.putObj_heap_other (by omega)]; exact heap_alloc_new W _
    have i2 : I pre W2 := hI _ _ _ _ (hI _ _ _ none hi gA (fun r e => by cases e)) g2 (fun r e => by cases e; omega)
    have k2 : KeepC g W W2 := (KeepC.grown (g := g) ⟨gA.os, gA.tape, gA.output, gA.size, fun k hk _ => gA.block k hk (by simp)⟩).trans (by rw [← hW2]; exact KeepC.put g _ _ _ _ hlA rfl)
    refine wpIn_mono (hbody _ pre x W2 W.heap.size hok i2 hlen hB2 hz) ?_
    rintro e a3 W3 ⟨rfl, g3, i3⟩
    have hl3 : W3.heap[w.heap.size + 1]? = some (.loop (rc .busy)) := (g3.block _ (by omega) (fun e => by have := Option.some.inj e; omega)).trans hl2
    have hd3 : W3.heap[w.heap.size]? = some (.deferred (some [])) := (g3.block _ (by omega) (fun e => by have := Option.some.inj e; omega)).trans hd2
    have he := run_endRound (P := P) none hl3
    refine ⟨_, _, he, rfl, ⟨⟨hI _ _ _ _ i3 (grownBy_putObj' _ _ _) (fun r e => by cases e; omega), ?_⟩, ?_, ?_⟩, ?_⟩
    · rw [World.putObj_size]; have := g3.size; omega
    · have hh : (W3.putObj (w.heap.size + 1) (.loop { rc .busy with state := if (none : Option Code).isNone then .ready else .done, pending := none })).heap[w.heap.size + 1]? = some (.loop { rc .busy with state := if (none : Option Code).isNone then .ready else .done, pending := none }) :=
        World.putObj_heap_same (by have := g3.size; omega)
      rw [hh]
      congr 2
      exact hend _ _
    · rw [World.putObj_heap_other (by omega)]; exact hd3
    · exact (k2.trans (KeepC.grown g3)).trans (KeepC.put g _ _ _ _ hl3 rfl)
  case behind =>
    rintro e W2 ⟨⟨v, rfl⟩, ⟨hi, hz⟩, hl, hd⟩
    have he := run_endLoop (P := P) hl (by rw [hst]; simp)
    refine ⟨none, _, by rw [he, hrc], ?_⟩
    exact hdone _ _ (Nat.le_refl _) (hI _ _ _ _ hi (grownBy_putObj' _ _ _) (fun r e => by cases e; omega)) (by rw [World.putObj_heap_other (by omega)]; exact hd)
attribute [local go_sem] Oper.semAt_some

theorem wpListIn_load_row {F : Fence} {n : Nat} {P : Program} {ops : Array Oper} {rest : List Oper} {o : Oper} {a : Act} {w : World} {Q : Exit → Act → World → Prop} (hgd : o.guard = none) (ty : TypeId) (x : Operand) (ho : o.op = .load ty x)
    (g : Nat) (hx : a.eval x = .pointer (some ⟨g, 0, none⟩)) (t : TypeId) (cs : Array Value) (fr : Nat × Nat) (d : TypeDesc) (hg : w.heap[g]? = some (.cells cs t fr))
    (hu : P.underlying ty = some d) (hd : (match d with | .struct _ | .array _ _ => true | _ => false) = true) (hi : (P.info? ty).map (·.size) = some cs.size)
    (h : wpListIn F n P ops Q rest (a.put o.dst (.agg cs)) w) : wpListIn F n P ops Q (o :: rest) a w := by
  refine wpListIn_plain hgd fun K hK => ⟨by simp [Oper.about, ho], ?_⟩
  rw [Oper.semAt_plain F _ _ (by rw [ho]; intro c hc; cases hc)]
  simp only [execOp, ho, hx, Instr.loadAt, Instr.sureAddr, Sem.run_bind, Sem.run_pure, Result.andThen_ok, run_loadVar_row w g t ty cs fr d hg hu hd hi]
  exact hK _ _ h
theorem wpListIn_store_row {F : Fence} {n : Nat} {P : Program} {ops : Array Oper} {rest : List Oper} {o : Oper} {a : Act} {w : World} {Q : Exit → Act → World → Prop} (hgd : o.guard = none) (ty : TypeId) (x y : Operand) (ho : o.op = .store ty x y)
    (g : Nat) (cells : Array Value) (hx : a.eval x = .pointer (some ⟨g, 0, none⟩)) (hy : a.eval y = .agg cells)
    (t : TypeId) (old : Array Value) (hg : w.heap[g]? = some (.cells old t (0, 0))) (hi : (P.info? ty).map (·.size) = some cells.size)
    (hold : old.size = cells.size) (h1 : cells.all (·.oneCell') = true)
    (h : wpListIn F n P ops Q rest (a.put o.dst undef) (w.setRow g cells)) : wpListIn F n P ops Q (o :: rest) a w := by
  refine wpListIn_plain hgd fun K hK => ⟨by simp [Oper.about, ho], ?_⟩
  rw [Oper.semAt_plain F _ _ (by rw [ho]; intro c hc; cases hc)]
  simp only [execOp, ho, hx, hy, Instr.storeAt, Instr.sureAddr, Sem.run_bind, Sem.run_pure, Result.andThen_ok, run_storeVar_row w g t ty old cells hg hi hold h1]
  exact hK _ _ h
theorem wpListIn_copy_run {F : Fence} {n : Nat} {P : Program} (w : World) {ops : Array Oper} {rest : List Oper} {o : Oper} {a : Act} {Q : Exit → Act → World → Prop} (hgd : o.guard = none) (d s : Operand) (t t' : TypeId)
    (ho : o.op = .call { callee := .builtin .copy, args := #[d, s], argTypes := #[t, t'] }) (v u : Value) (hd : a.eval d = v) (hs : a.eval s = u) {v' : Value} {w' : World}
    (hr : (Builtin.copy_ #[t, t'] o.type #[v, u]).run P w = .ok v' w') (h : wpListIn F n P ops Q rest (a.put o.dst v') w') : wpListIn F n P ops Q (o :: rest) a w := by
  refine wpListIn_plain hgd fun K hK => ⟨by simp [Oper.about, ho, resolve, Target.leads, Sem.run_pure], ?_⟩
  rw [Oper.semAt_plain F _ _ (by rw [ho]; intro c hc; cases hc)]
  simp only [execOp, ho, resolve, invoke, builtin, Sem.run_bind, Sem.run_pure, Result.andThen_ok, List.map_toArray, List.map_cons, List.map_nil, hd, hs, hr]
  exact hK _ _ h

/-- copy into a row from a string: as many bytes as fit. -/
theorem run_copy_row_min {P : Program} (w : World) (dT sT ty elem : TypeId) (g o dLen dCap : Nat) (s : ByteArray) (cur : Array Value) (t : TypeId)
    (hu : P.underlying dT = some (.slice elem)) (hs : (P.info? elem).map (·.size) = some 1) (hg : w.heap[g]? = some (.cells cur t (0, 0))) (hfit : o + min s.size dLen ≤ cur.size) :
    (Builtin.copy_ #[dT, sT] ty #[.slice (some ⟨g, o, none⟩) dLen dCap, .string s]).run P w =
      .ok (goInt (min s.size dLen : Nat)) (w.setRow g (cur.toList.take o ++ (Lib.byteCells s.data.toList).take (min s.size dLen) ++ cur.toList.drop (o + min s.size dLen)).toArray) := by
  have hlen : ((Lib.byteCells s.data.toList).take (min s.size dLen)).length = min s.size dLen := by rw [List.length_take, Lib.byteCells_length, ← Lib.size_eq]; omega
  have hst := run_storeCells_at P g o t ((Lib.byteCells s.data.toList).take (min s.size dLen)) 0 cur w hg (by rw [hlen]; simpa using hfit) (fun v hv => Lib.byteCells_one _ v (List.mem_of_mem_take hv))
  rw [hlen] at hst
  simp only [Nat.add_zero] at hst
  cases hq : P.info? elem with
  | none => simp [hq] at hs
  | some i =>
    simp [Builtin.copy_, run_underlying hu, Builtin.lenOf, Builtin.firstCells, sizeOf, typeInfo, hq]
    have e : List.map (fun b : UInt8 => Value.int IntKind.u8 (b.toNat : Int)) s.data.toList = Lib.byteCells s.data.toList := rfl
    rw [e, hst]
    simp [Result.andThen]

theorem grownBy_setRow (w : World) (g : Nat) (cs : Array Value) : w.grownBy (w.setRow g cs) (some g) :=
  ⟨rfl, rfl, rfl, by simp, fun k _ hk => setRow_other _ _ _ _ (fun e => hk (by rw [e]))⟩
/-! ### The blocks of a string of bytes -/
def blk (T : Bs) (j : Nat) : Bs := (T.drop (64 * j)).take 64
def blks (T : Bs) (j : Nat) : List Bs := (List.range j).map (blk T)
theorem blks_succ (T : Bs) (j : Nat) : blks T (j + 1) = blks T j ++ [blk T j] := by unfold blks; rw [List.range_succ, List.map_append]; rfl
theorem blks_length (T : Bs) (j : Nat) : (blks T j).length = j := by simp [blks]
/-- The first bytes of a block are there. -/
def Filled (T : Bs) (q : Nat) (L : Bs) : Prop := L.length = 64 ∧ L.take (q % 64) = (T.drop (64 * (q / 64))).take (q % 64)
def spliceL (L p : Bs) (u n : Nat) : Bs := L.take u ++ p.take n ++ L.drop (u + n)
theorem splice_length (L p : Bs) (u n : Nat) (hL : L.length = 64) (hn : n ≤ p.length) (hu : u + n ≤ 64) : (spliceL L p u n).length = 64 := by
  unfold spliceL
  simp only [List.length_append, List.length_take, List.length_drop, hL]
  omega
theorem splice_take (T L p r : Bs) (q n : Nat) (hf : Filled T q L) (hT : T.drop q = p ++ r) (hn : n ≤ p.length) (hu : q % 64 + n ≤ 64) :
    (spliceL L p (q % 64) n).take (q % 64 + n) = (T.drop (64 * (q / 64))).take (q % 64 + n) := by
  obtain ⟨hL, hf⟩ := hf
  have h1 : (L.take (q % 64) ++ p.take n).length = q % 64 + n := by
    rw [List.length_append, List.length_take, List.length_take]; omega
  unfold spliceL
  rw [List.take_append_of_le_length (by omega), List.take_of_length_le (by omega), hf, List.take_add]
  congr 1
  rw [List.drop_drop, show 64 * (q / 64) + q % 64 = q by omega, hT, List.take_append_of_le_length hn]
theorem filled_some (T L p r : Bs) (q n : Nat) (hf : Filled T q L) (hT : T.drop q = p ++ r) (hn : n ≤ p.length) (hu : q % 64 + n < 64) :
    Filled T (q + n) (spliceL L p (q % 64) n) := by
  refine ⟨splice_length _ _ _ _ hf.1 hn (by omega), ?_⟩
  have h := splice_take T L p r q n hf hT hn (by omega)
  rw [show (q + n) % 64 = q % 64 + n by omega, show (q + n) / 64 = q / 64 by omega]
  exact h
theorem filled_all (T L p r : Bs) (q n : Nat) (hf : Filled T q L) (hT : T.drop q = p ++ r) (hn : n ≤ p.length) (hu : q % 64 + n = 64) :
    spliceL L p (q % 64) n = blk T (q / 64) := by
  have h := splice_take T L p r q n hf hT hn (by omega)
  rw [hu, List.take_of_length_le (by rw [splice_length _ _ _ _ hf.1 hn (by omega)]; exact Nat.le_refl _)] at h
  exact h
theorem filled_next (T : Bs) (q n : Nat) (L : Bs) (hL : L.length = 64) (hu : q % 64 + n = 64) : Filled T (q + n) L :=
  ⟨hL, by rw [show (q + n) % 64 = 0 by omega]; rfl⟩
theorem cells8_splice (L p : Bs) (u n : Nat) : ((cells8 L).toArray.toList.take u ++ (Lib.byteCells p).take n ++ (cells8 L).toArray.toList.drop (u + n)).toArray = (cells8 (spliceL L p u n)).toArray := by
  unfold spliceL cells8 Lib.byteCells
  simp [List.map_take, List.map_drop]
theorem KeepC.cell {g : Nat} {W W' : World} (h : KeepC g W W') {a : Addr} {v : Value} (hne : a.block ≠ g) (hc : W.cell? a = some v) : W'.cell? a = some v := by
  obtain ⟨o, ho, hu⟩ := cells_of_cell hc
  have h2 := h.2 a.block o hne ho hu
  rw [World.cell?_of_block (w := W) (w' := W') (by rw [h2, ho])]
  exact hc

theorem ext_list (s : ByteArray) (n : Nat) : (s.extract n s.size).data.toList = s.data.toList.drop n := by
  rw [Lib.extract_data, List.take_of_length_le (by simp)]
theorem size_list (s : ByteArray) : s.size = s.data.toList.length := by simp
abbrev zeros64b : Array Value := #[.int .u8 0, .int .u8 0, .int .u8 0, .int .u8 0, .int .u8 0, .int .u8 0, .int .u8 0, .int .u8 0, .int .u8 0, .int .u8 0, .int .u8 0, .int .u8 0, .int .u8 0, .int .u8 0, .int .u8 0, .int .u8 0, .int .u8 0, .int .u8 0, .int .u8 0, .int .u8 0, .int .u8 0, .int .u8 0, .int .u8 0, .int .u8 0, .int .u8 0, .int .u8 0, .int .u8 0, .int .u8 0, .int .u8 0, .int .u8 0, .int .u8 0, .int .u8 0, .int .u8 0, .int .u8 0, .int .u8 0, .int .u8 0, .int .u8 0, .int .u8 0, .int .u8 0, .int .u8 0, .int .u8 0, .int .u8 0, .int .u8 0, .int .u8 0, .int .u8 0, .int .u8 0, .int .u8 0, .int .u8 0, .int .u8 0, .int .u8 0, .int .u8 0, .int .u8 0, .int .u8 0, .int .u8 0, .int .u8 0, .int .u8 0, .int .u8 0, .int .u8 0, .int .u8 0, .int .u8 0, .int .u8 0, .int .u8 0, .int .u8 0, .int .u8 0]
def sizeV : Value → Nat
  | .string s => s.size
  | _ => 0
theorem spliceLen (L p : Bs) (u n : Nat) (hL : L.length = 64) (hn : n ≤ p.length) (hu : u + n ≤ 64) : (spliceL L p u n).length = 64 := splice_length L p u n hL hn hu

def padL (n : Nat) : Bs := 128 :: (List.replicate (padZ n) 0 ++ be8 (8 * n))
theorem padF_eq (s : Bs) : padF s = s ++ padL s.length := rfl
/-- The last bytes are set. -/
def padAt (n i : Nat) : Bs := 128 :: (List.replicate (padZ n + (8 - i)) 0 ++ (be8 (8 * n)).drop (8 - i))
theorem padAt_length (n i : Nat) (h : i ≤ 8) : (padAt n i).length = 9 + padZ n := by
  unfold padAt be8
  simp only [List.length_cons, List.length_append, List.length_replicate, List.length_drop, List.length_map, List.length_range]
  omega
theorem padAt_zero (n : Nat) : padAt n 0 = (List.replicate (9 + padZ n) (0 : UInt8)).set 0 128 := by
  unfold padAt
  rw [List.drop_of_length_le (by simp [be8]), List.append_nil, show 9 + padZ n = (padZ n + (8 - 0)) + 1 by omega]
  generalize padZ n + (8 - 0) = m
  rfl
theorem padAt_full (n : Nat) : padAt n 8 = padL n := rfl
theorem be8_get (n i : Nat) (h : i < 8) : (be8 n).drop (7 - i) = UInt8.ofNat (n / 2 ^ (8 * i)) :: (be8 n).drop (8 - i) := by
  have hl : 7 - i < (be8 n).length := by simp [be8]; omega
  rw [List.drop_eq_getElem_cons hl, show 7 - i + 1 = 8 - i by omega]
  congr 1
  simp only [be8, List.getElem_map, List.getElem_range]
  rw [show 7 - (7 - i) = i by omega]
theorem padAt_set (n i : Nat) (h : i < 8) : (padAt n i).set (8 + padZ n - i) (UInt8.ofNat (8 * n / 2 ^ (8 * i))) = padAt n (i + 1) := by
  unfold padAt
  rw [show 8 + padZ n - i = (padZ n + (7 - i)) + 1 by omega, List.set_cons_succ]
  congr 1
  rw [show padZ n + (8 - i) = (padZ n + (7 - i)) + 1 by omega, List.replicate_succ', List.append_assoc, List.set_append_right _ _ (by simp), show 8 - (i + 1) = 7 - i by omega, be8_get _ _ h]
  simp

theorem cells8_set (l : Bs) (i : Nat) (x : UInt8) (v : Int) (h : ((x.toNat : Nat) : Int) = v) : (cells8 l).toArray.setIfInBounds i (.int .u8 v) = (cells8 (l.set i x)).toArray := by
  apply Array.ext'
  rw [← h]
  simp [cells8, List.map_set]
theorem Arr8.set {w : World} {B : Nat} {t : TypeId} {l : Bs} (h : Arr8 w B t l) (i : Nat) (x : UInt8) (v : Int) (hv : ((x.toNat : Nat) : Int) = v) : Arr8 (w.setCell ⟨B, i, none⟩ (.int .u8 v)) B t (l.set i x) := by
  unfold Arr8
  rw [heap_setCell_same _ _ _ _ _ _ h, cells8_set _ _ _ _ hv]

attribute [local go_sem] Oper.semAt_some

/-- The words after a list of blocks. -/
def hashL (l : List Bs) : Eight := l.foldl blockE initE
theorem hashL_snoc (l : List Bs) (x : Bs) : hashL (l ++ [x]) = blockE (hashL l) x := by unfold hashL; rw [List.foldl_append]; rfl
theorem hashL_blks (T : Bs) (j : Nat) : hashL (blks T j) = hashN T j := by
  induction j with
  | zero => rfl
  | succ j ih => rw [blks_succ, hashL_snoc, ih]; rfl
theorem hashL_ok (l : List Bs) : okE (hashL l) := by
  have h : ∀ (v : Eight) (l : List Bs), okE v → okE (l.foldl blockE v) := by
    intro v l
    induction l generalizing v with
    | nil => exact fun h => h
    | cons x l ih => exact fun _ => ih _ (addE_ok _ _)
  exact h _ _ ⟨by decide, by decide, by decide, by decide, by decide, by decide, by decide, by decide⟩

def sizesTo (l : List Bs) (i : Nat) : Nat := (l.take i).flatten.length
theorem sizesTo_succ (l : List Bs) (i : Nat) (h : i < l.length) : sizesTo l (i + 1) = sizesTo l i + (l.getD i []).length := by
  unfold sizesTo
  rw [List.take_succ_eq_append_getElem h, List.flatten_append, List.length_append, List.getD_eq_getElem?_getD, List.getElem?_eq_getElem h]
  simp

theorem cells8_one (l : Bs) : (cells8 l).toArray.all (·.oneCell') = true := by
  rw [Array.all_eq_true_iff_forall_mem]
  intro x hx
  obtain ⟨y, _, rfl⟩ := List.mem_map.1 (List.mem_toArray.1 hx)
  rfl
abbrev zeros32b : Array Value := #[.int .u8 0, .int .u8 0, .int .u8 0, .int .u8 0, .int .u8 0, .int .u8 0, .int .u8 0, .int .u8 0, .int .u8 0, .int .u8 0, .int .u8 0, .int .u8 0, .int .u8 0, .int .u8 0, .int .u8 0, .int .u8 0, .int .u8 0, .int .u8 0, .int .u8 0, .int .u8 0, .int .u8 0, .int .u8 0, .int .u8 0, .int .u8 0, .int .u8 0, .int .u8 0, .int .u8 0, .int .u8 0, .int .u8 0, .int .u8 0, .int .u8 0, .int .u8 0]
def fillB (v : Eight) (i : Nat) : Bs := (bytesE v).take i ++ List.replicate (32 - i) 0
theorem fillB_length (v : Eight) (i : Nat) : (fillB v i).length = 32 ∨ 32 < i := by
  by_cases h : i ≤ 32
  · left
    unfold fillB
    rw [List.length_append, List.length_take, List.length_replicate, show (bytesE v).length = 32 from rfl]
    omega
  · right; omega
theorem bytesE_get (v : Eight) (i : Nat) (h : i < 32) : (bytesE v).getD i 0 = UInt8.ofNat ((listE v).getD (i / 4) 0 >>> (24 - 8 * (i % 4))) := by
  match i, h with
  | 0, _ => rfl
  | 1, _ => rfl
  | 2, _ => rfl
  | 3, _ => rfl
  | 4, _ => rfl
  | 5, _ => rfl
  | 6, _ => rfl
  | 7, _ => rfl
  | 8, _ => rfl
  | 9, _ => rfl
  | 10, _ => rfl
  | 11, _ => rfl
  | 12, _ => rfl
  | 13, _ => rfl
  | 14, _ => rfl
  | 15, _ => rfl
  | 16, _ => rfl
  | 17, _ => rfl
  | 18, _ => rfl
  | 19, _ => rfl
  | 20, _ => rfl
  | 21, _ => rfl
  | 22, _ => rfl
  | 23, _ => rfl
  | 24, _ => rfl
  | 25, _ => rfl
  | 26, _ => rfl
  | 27, _ => rfl
  | 28, _ => rfl
  | 29, _ => rfl
  | 30, _ => rfl
  | 31, _ => rfl
  | n + 32, h => exact absurd h (by omega)
theorem fillB_set (v : Eight) (i : Nat) (h : i < 32) : (fillB v i).set i (UInt8.ofNat ((listE v).getD (i / 4) 0 >>> (24 - 8 * (i % 4)))) = fillB v (i + 1) := by
  have hb : (bytesE v).length = 32 := rfl
  have hl : ((bytesE v).take i).length = i := by rw [List.length_take, hb]; omega
  unfold fillB
  rw [← bytesE_get v i h, List.set_append_right _ _ (by omega), hl, Nat.sub_self, show 32 - i = (32 - (i + 1)) + 1 by omega, List.replicate_succ, List.set_cons_zero,
    List.take_succ_eq_append_getElem (by omega), List.append_assoc, List.getD_eq_getElem?_getD, List.getElem?_eq_getElem (by omega)]
  rfl
abbrev init8 : Array Value := #[.int .u32 1779033703, .int .u32 3144134277, .int .u32 1013904242, .int .u32 2773480762, .int .u32 1359893119, .int .u32 2600822924, .int .u32 528734635, .int .u32 1541459225]
theorem row_keep {w w' : World} {base : Nat} {e : TypeId} {size g n c k : Nat} {xs : List Value} (h : w.ownsRow base e size (.slice (some ⟨g, 0, none⟩) n c) k xs) (hb : w'.heap[g]? = w.heap[g]?) : w'.ownsRow base e size (.slice (some ⟨g, 0, none⟩) n c) k xs := by
  obtain ⟨h1, h2⟩ := h
  refine ⟨h1, ?_⟩
  rcases h2 with ⟨h, _⟩ | ⟨g', cap, cur, hv, hb2, hg, rest⟩
  · cases h
  · cases hv
    exact Or.inr ⟨_, _, _, rfl, hb2, hb.trans hg, rest⟩
theorem row_strs {w : World} {base : Nat} {g n c : Nat} {l : List Bs} (h : w.ownsRow base 9 1 (.slice (some ⟨g, 0, none⟩) n c) n (cellsS l)) : StrsAt w g 0 l := fun i hi => by
  have h1 : (cellsS l)[i]? = some (.string ⟨(l.getD i []).toArray⟩) := by
    unfold cellsS
    rw [List.getElem?_map, List.getElem?_eq_getElem hi, List.getD_eq_getElem?_getD, List.getElem?_eq_getElem hi]
    rfl
  have h2 := World.ownsRow.cells h rfl _ _ h1
  have e : Addr.add ⟨g, 0, none⟩ i = ⟨g, i, none⟩ := by unfold Addr.add; split <;> simp_all
  rw [e] at h2
  rw [Nat.zero_add]
  exact h2

theorem cells32E_size (v : Eight) : (cells32 (listE v)).toArray.size = 8 := by rw [List.size_toArray, cells32_length]; rfl
theorem mk_eta (t : ByteArray) : (⟨t.data.toList.toArray⟩ : ByteArray) = t := by
  apply ByteArray.ext; simp
end Go.Proofs.Ytngkfopdlkddnaa
