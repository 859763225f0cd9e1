/- A law for ranging over a function that writes memory of its own between two rounds: the caller's invariant speaks only of what lay there when the loop began; each round changes one block of the caller's and lays new ones. | The iterator that package digest's blocks returns: it yields the blocks of 64 bytes of the parts, one after the other. | The contract of package digest's padding: what a string of that many bytes is extended by. Condition: at most 10^15 bytes. | The contract of package digest's sum: the SHA-256 of the parts, one after the other. Conditions: the slice of the parts was made for this call; the table of constants reads as the program lays it; at most 10^12 bytes. | The contracts of package digest's Sum, Leaf, Node and Chain: they return the plain digests. Conditions: the table of constants reads as the program lays it; at most 10^10 bytes each. -/
import Derived.Test.YtnndnjnpkjpkpaaGreatDoorDComp
import Derived.RangeFuncNested
import Derived.RangeFuncBound
import Derived.RangeFuncCalls
import Derived.RangeFuncLeaves
import Derived.RangeFuncFrom
import Derived.RangeFuncBox
import Derived.Shelf.Abstract
import Derived.Shelf.RegionOpen
import Derived.OwnWalkIn
import Derived.TacticsInMore
import Derived.LoopNIn
import Derived.LoopIn
import Derived.Laws.BytesArg
import Derived.Scope
import Derived.Lib.BufferWrite
import Derived.Deep.OwnRows
namespace Go.Proofs.YtnndnjnpkjpkpaaGreatDoor
open Go.RowKit Go.Shelf
/-- Cells stay as they are, but for one block. -/
def KeepC (g : Nat) (W W' : World) : Prop := W.heap.size ≤ W'.heap.size ∧ ∀ (k : Nat) (o : Obj), k ≠ g → W.heap[k]? = some o → o.isCells = true → W'.heap[k]? = some o
theorem KeepC.trans {g : Nat} {A B C : World} (h : KeepC g A B) (k : KeepC g B C) : KeepC g A C :=
  ⟨Nat.le_trans h.1 k.1, fun i o hi ha ho => k.2 i o hi (h.2 i o hi ha ho) ho⟩
theorem KeepC.put (g : Nat) (W : World) (l : Nat) (o o' : Obj) (h : W.heap[l]? = some o) (ho : o.isCells = false) : KeepC g W (W.putObj l o') := by
  refine ⟨by simp, fun k u _ hk hu => ?_⟩
  have hne : k ≠ l := fun e => by subst e; rw [h] at hk; cases hk; rw [ho] at hu; cases hu
  rw [World.putObj_heap_other hne]; exact hk
theorem KeepC.grown {g : Nat} {W W' : World} (h : W.grownBy W' (some g)) : KeepC g W W' :=
  ⟨h.size, fun k _ hk ho _ => (h.block k (Array.getElem?_eq_some_iff.1 ho).1 (fun e => hk (Option.some.inj e))).trans ho⟩
/-- What an invariant abides: whatever is changed from B on. -/
def AbidesB {β : Type} (B : Nat) (J : β → World → Prop) : Prop := ∀ s W W' row, J s W → W.grownBy W' row → (∀ r, row = some r → B ≤ r) → J s W'
/-- The contract of an iterator that lays and writes blocks of its own. -/
def GivesMem {α : Type} (F : Fence) (n : Nat) (P : Program) (gf : Nat) (lb : Array Value) (encs : α → Array Value) (ok : α → Prop) (g N : Nat) (all : List α) (w : World) : Prop :=
  ∀ (l : Nat) (J : List α → World → Prop) (W : World), w.grownBy W none → w.heap.size ≤ W.heap.size → AbidesB W.heap.size J →
    (∀ pre x W1, ok x → J pre W1 → pre.length < N → YieldAt F (n - 1) P l (encs x) W1 fun e W' => e = .returned (.bool true) ∧ J (pre ++ [x]) W' ∧ KeepC g W1 W') →
    J [] W → CallsIn F n P gf (#[.func (.yield l) #[] #[]] ++ lb) W fun e W' => (∃ v, e = .returned v) ∧ J all W'

set_option maxHeartbeats 1000000 in
theorem wpIn_rangeFunc_mem {F : Fence} {n : Nat} {P : Program} {α : Type} {gop : Operand} {ps : Array Tmp} {assign body : Code} {Q : Exit → Act → World → Prop} {a : Act} {w : World}
    (hro : F.round = none) (h1 : 1 ≤ n) {gf : Nat} {lb : Array Value} (hg : a.eval gop = .func (.func gf) #[] lb) (hFg : F.fn gf) (eg : ∀ args w, (callFunc gf args).run P w = .ok (.enter gf args) w)
    {encs : α → Array Value} (hps : ∀ x, (encs x).size = ps.size) {ok : α → Prop} {g N : Nat} {all : List α} (hgw : g < w.heap.size) (hseq : GivesMem F (n - 1) P gf lb encs ok g N all w)
    (I : List α → World → Prop) (hI : AbidesB w.heap.size I) (h0 : I [] w) (a₁ : α → Nat → Act) (o₁ : α → Obj)
    (hassign : ∀ (l : Nat) (x : α) (W : World) (K : Act → World → Prop), ok x → K (a₁ x W.heap.size) (W.alloc (o₁ x)) →
      assign.wpIn (F.inRound l) (n - 1 - 1) P (Exit.then K (fun _ _ _ => False)) { tmps := (ps.zip (encs x)).foldl (fun t (p, v) => t.setIfInBounds p v) a.tmps, defers := [] } W)
    (hbody : ∀ (l : Nat) (pre : List α) (x : α) (W : World) (B : Nat), ok x → I pre W → pre.length < N → W.heap[B]? = some (o₁ x) → w.heap.size + 2 ≤ B →
      body.wpIn (F.inRound l) (n - 1 - 1) P (fun e _ W' => e = .normal ∧ W.grownBy W' (some g) ∧ I (pre ++ [x]) W') (a₁ x B) W)
    (hdone : ∀ (D : Nat) (W : World), w.heap.size ≤ D → I all W → W.heap[D]? = some (.deferred (some [])) → Q .normal { a with defers := { target := .collected D, args := #[] } :: a.defers } W) :
    (Code.rangeFunc gop ps assign body).wpIn F n P Q a w := by
  refine wpIn_rangeFunc fun fn hfn => ?_
  rw [hro]
  obtain ⟨rc, hrc⟩ : ∃ rc : LoopState → Loop, rc = fun st => { state := st, pending := none, fn, tmps := a.tmps, params := ps, assign, body, defers := w.heap.size } := ⟨_, rfl⟩
  have hpar : ∀ st, (rc st).params = ps := fun st => by rw [hrc]
  have hst : ∀ st, (rc st).state = st := fun st => by rw [hrc]
  have hset : ∀ st st', { rc st with state := st' } = rc st' := fun st st' => by rw [hrc]
  have hend : ∀ st st', { rc st with state := st', pending := none } = rc st' := fun st st' => by rw [hrc]
  obtain ⟨W1, hW1⟩ : ∃ W1, (w.alloc (.deferred (some []))).alloc (.loop (rc .ready)) = W1 := ⟨_, rfl⟩
  have z1 : W1.heap.size = w.heap.size + 2 := by rw [← hW1]; simp
  have hD1 : W1.heap[w.heap.size]? = some (.deferred (some [])) := by
    rw [← hW1, Below.heap_alloc _ _ _ (by simp)]; exact heap_alloc_new w _
  have hL1 : W1.heap[w.heap.size + 1]? = some (.loop (rc .ready)) := by
    rw [← hW1]
    have := heap_alloc_new (w.alloc (.deferred (some []))) (.loop (rc .ready))
    simpa using this
  have hg1 : w.grownBy W1 none := by
    rw [← hW1]
    exact ⟨rfl, rfl, rfl, by simp; omega, fun k hk _ => by rw [Below.heap_alloc _ _ _ (by simp; omega), Below.heap_alloc _ _ _ hk]⟩
  refine ⟨w.heap.size + 1, [{ target := .collected w.heap.size, args := #[] }], W1, { target := .fn (.func gf) lb, args := #[.func (.yield (w.heap.size + 1)) #[] #[]] }, W1, gf,
    #[.func (.yield (w.heap.size + 1)) #[] #[]] ++ lb, W1, ?_, ?_, ?_, ?_, fun _ => h1, ?_⟩
  · rw [← hW1, hrc]; exact run_enterLoop_outer _ _ _ _ _
  · simp only [resolve, hg]
    simp [go_sem]
  · intro f' hf'
    simp [Target.leads] at hf'
    subst hf'
    exact hFg
  · simp [invoke, go_sem, eg]
  refine (hseq (w.heap.size + 1) (fun pre W => (I pre W ∧ w.heap.size + 2 ≤ W.heap.size) ∧ W.heap[w.heap.size + 1]? = some (.loop (rc .ready)) ∧ W.heap[w.heap.size]? = some (.deferred (some []))) W1 hg1 hg1.size
    ?abides ?round ⟨⟨hI _ _ _ none h0 hg1 (fun r e => by cases e), by omega⟩, hL1, hD1⟩).mono ?behind
  case abides =>
    rintro s A B row ⟨⟨hi, hz⟩, hl, hd⟩ hgr hr
    rw [z1] at hr
    have h1 : (some (w.heap.size + 1) : Option Nat) ≠ row := fun e => by have := hr _ e.symm; omega
    have h2 : (some w.heap.size : Option Nat) ≠ row := fun e => by have := hr _ e.symm; omega
    exact ⟨⟨hI s A B row hi hgr (fun r e => by have := hr r e; omega), Nat.le_trans hz hgr.size⟩, (hgr.block _ (by omega) h1).trans hl, (hgr.block _ (by omega) h2).trans hd⟩
  case round =>
    rintro pre x W hok ⟨⟨hi, hz⟩, hl, hd⟩ hlen
    have hy := run_yield (P := P) (args := encs x) hl (by rw [hpar]; exact hps x)
    refine ⟨fn, _, assign, body, by rw [hrc] at hy; exact hy, roundIn_of_wpIn hfn (hassign _ x W _ hok ?_)⟩
    have hlA : (W.alloc (o₁ x)).heap[w.heap.size + 1]? = some (.loop (rc .ready)) := (Below.heap_alloc _ _ _ (by omega)).trans hl
    have hbg := run_beginRound (P := P) hlA (hst _)
    rw [hset] at hbg
    refine ⟨_, hbg, ?_⟩
    obtain ⟨W2, hW2⟩ : ∃ W2, (W.alloc (o₁ x)).putObj (w.heap.size + 1) (.loop (rc .busy)) = W2 := ⟨_, rfl⟩
    rw [hW2]
    have zA : (W.alloc (o₁ x)).heap.size = W.heap.size + 1 := by simp
    have z2 : W2.heap.size = W.heap.size + 1 := by rw [← hW2]; simp
    have gA : W.grownBy (W.alloc (o₁ x)) none := World.grownBy_alloc W _ none
    have g2 : (W.alloc (o₁ x)).grownBy W2 (some (w.heap.size + 1)) := by rw [← hW2]; exact grownBy_putObj' _ _ _
    have hl2 : W2.heap[w.heap.size + 1]? = some (.loop (rc .busy)) := by rw [← hW2]; exact World.putObj_heap_same (by rw [zA]; omega)
    have hd2 : W2.heap[w.heap.size]? = some (.deferred (some [])) := by
      rw [← hW2, World.putObj_heap_other (by omega), Below.heap_alloc _ _ _ (by omega)]; exact hd
    have hB2 : W2.heap[W.heap.size]? = some (o₁ x) := by
      rw [← hW2, World.putObj_heap_other (by omega)]; exact heap_alloc_new W _
    have i2 : I pre W2 := hI _ _ _ _ (hI _ _ _ none hi gA (fun r e => by cases e)) g2 (fun r e => by cases e; omega)
    have k2 : KeepC g W W2 := (KeepC.grown (g := g) ⟨gA.os, gA.tape, gA.output, gA.size, fun k hk _ => gA.block k hk (by simp)⟩).trans (by rw [← hW2]; exact KeepC.put g _ _ _ _ hlA rfl)
    refine wpIn_mono (hbody _ pre x W2 W.heap.size hok i2 hlen hB2 hz) ?_
    rintro e a3 W3 ⟨rfl, g3, i3⟩
    have hl3 : W3.heap[w.heap.size + 1]? = some (.loop (rc .busy)) := (g3.block _ (by omega) (fun e => by have := Option.some.inj e; omega)).trans hl2
    have hd3 : W3.heap[w.heap.size]? = some (.deferred (some [])) := (g3.block _ (by omega) (fun e => by have := Option.some.inj e; omega)).trans hd2
    have he := run_endRound (P := P) none hl3
    refine ⟨_, _, he, rfl, ⟨⟨hI _ _ _ _ i3 (grownBy_putObj' _ _ _) (fun r e => by cases e; omega), ?_⟩, ?_, ?_⟩, ?_⟩
    · rw [World.putObj_size]; have := g3.size; omega
    · have hh : (W3.putObj (w.heap.size + 1) (.loop { rc .busy with state := if (none : Option Code).isNone then .ready else .done, pending := none })).heap[w.heap.size + 1]? = some (.loop { rc .busy with state := if (none : Option Code).isNone then .ready else .done, pending := none }) :=
        World.putObj_heap_same (by have := g3.size; omega)
      rw [hh]
      congr 2
      exact hend _ _
    · rw [World.putObj_heap_other (by omega)]; exact hd3
    · exact (k2.trans (KeepC.grown g3)).trans (KeepC.put g _ _ _ _ hl3 rfl)
  case behind =>
    rintro e W2 ⟨⟨v, rfl⟩, ⟨hi, hz⟩, hl, hd⟩
    have he := run_endLoop (P := P) hl (by rw [hst]; simp)
    refine ⟨none, _, by rw [he, hrc], ?_⟩
    exact hdone _ _ (Nat.le_refl _) (hI _ _ _ _ hi (grownBy_putObj' _ _ _) (fun r e => by cases e; omega)) (by rw [World.putObj_heap_other (by omega)]; exact hd)
end Go.Proofs.YtnndnjnpkjpkpaaGreatDoor
namespace Go.Proofs.YtnndnjnpkjpkpaaGreatDoor
open Go.RowKit Go.Shelf
attribute [local go_sem] Oper.semAt_some

theorem wpListIn_load_row {F : Fence} {n : Nat} {P : Program} {ops : Array Oper} {rest : List Oper} {o : Oper} {a : Act} {w : World} {Q : Exit → Act → World → Prop} (hgd : o.guard = none) (ty : TypeId) (x : Operand) (ho : o.op = .load ty x)
    (g : Nat) (hx : a.eval x = .pointer (some ⟨g, 0, none⟩)) (t : TypeId) (cs : Array Value) (fr : Nat × Nat) (d : TypeDesc) (hg : w.heap[g]? = some (.cells cs t fr))
    (hu : P.underlying ty = some d) (hd : (match d with | .struct _ | .array _ _ => true | _ => false) = true) (hi : (P.info? ty).map (·.size) = some cs.size)
    (h : wpListIn F n P ops Q rest (a.put o.dst (.agg cs)) w) : wpListIn F n P ops Q (o :: rest) a w := by
  refine wpListIn_plain hgd fun K hK => ⟨by simp [Oper.about, ho], ?_⟩
  rw [Oper.semAt_plain F _ _ (by rw [ho]; intro c hc; cases hc)]
  simp only [execOp, ho, hx, Instr.loadAt, Instr.sureAddr, Sem.run_bind, Sem.run_pure, Result.andThen_ok, run_loadVar_row w g t ty cs fr d hg hu hd hi]
  exact hK _ _ h
theorem wpListIn_store_row {F : Fence} {n : Nat} {P : Program} {ops : Array Oper} {rest : List Oper} {o : Oper} {a : Act} {w : World} {Q : Exit → Act → World → Prop} (hgd : o.guard = none) (ty : TypeId) (x y : Operand) (ho : o.op = .store ty x y)
    (g : Nat) (cells : Array Value) (hx : a.eval x = .pointer (some ⟨g, 0, none⟩)) (hy : a.eval y = .agg cells)
    (t : TypeId) (old : Array Value) (hg : w.heap[g]? = some (.cells old t (0, 0))) (hi : (P.info? ty).map (·.size) = some cells.size)
    (hold : old.size = cells.size) (h1 : cells.all (·.oneCell') = true)
    (h : wpListIn F n P ops Q rest (a.put o.dst undef) (w.setRow g cells)) : wpListIn F n P ops Q (o :: rest) a w := by
  refine wpListIn_plain hgd fun K hK => ⟨by simp [Oper.about, ho], ?_⟩
  rw [Oper.semAt_plain F _ _ (by rw [ho]; intro c hc; cases hc)]
  simp only [execOp, ho, hx, hy, Instr.storeAt, Instr.sureAddr, Sem.run_bind, Sem.run_pure, Result.andThen_ok, run_storeVar_row w g t ty old cells hg hi hold h1]
  exact hK _ _ h
theorem wpListIn_copy_run {F : Fence} {n : Nat} {P : Program} (w : World) {ops : Array Oper} {rest : List Oper} {o : Oper} {a : Act} {Q : Exit → Act → World → Prop} (hgd : o.guard = none) (d s : Operand) (t t' : TypeId)
    (ho : o.op = .call { callee := .builtin .copy, args := #[d, s], argTypes := #[t, t'] }) (v u : Value) (hd : a.eval d = v) (hs : a.eval s = u) {v' : Value} {w' : World}
    (hr : (Builtin.copy_ #[t, t'] o.type #[v, u]).run P w = .ok v' w') (h : wpListIn F n P ops Q rest (a.put o.dst v') w') : wpListIn F n P ops Q (o :: rest) a w := by
  refine wpListIn_plain hgd fun K hK => ⟨by simp [Oper.about, ho, resolve, Target.leads, Sem.run_pure], ?_⟩
  rw [Oper.semAt_plain F _ _ (by rw [ho]; intro c hc; cases hc)]
  simp only [execOp, ho, resolve, invoke, builtin, Sem.run_bind, Sem.run_pure, Result.andThen_ok, List.map_toArray, List.map_cons, List.map_nil, hd, hs, hr]
  exact hK _ _ h

/-- copy into a row from a string: as many bytes as fit. -/
theorem run_copy_row_min {P : Program} (w : World) (dT sT ty elem : TypeId) (g o dLen dCap : Nat) (s : ByteArray) (cur : Array Value) (t : TypeId)
    (hu : P.underlying dT = some (.slice elem)) (hs : (P.info? elem).map (·.size) = some 1) (hg : w.heap[g]? = some (.cells cur t (0, 0))) (hfit : o + min s.size dLen ≤ cur.size) :
    (Builtin.copy_ #[dT, sT] ty #[.slice (some ⟨g, o, none⟩) dLen dCap, .string s]).run P w =
      .ok (goInt (min s.size dLen : Nat)) (w.setRow g (cur.toList.take o ++ (Lib.byteCells s.data.toList).take (min s.size dLen) ++ cur.toList.drop (o + min s.size dLen)).toArray) := by
  have hlen : ((Lib.byteCells s.data.toList).take (min s.size dLen)).length = min s.size dLen := by rw [List.length_take, Lib.byteCells_length, ← Lib.size_eq]; omega
  have hst := run_storeCells_at P g o t ((Lib.byteCells s.data.toList).take (min s.size dLen)) 0 cur w hg (by rw [hlen]; simpa using hfit) (fun v hv => Lib.byteCells_one _ v (List.mem_of_mem_take hv))
  rw [hlen] at hst
  simp only [Nat.add_zero] at hst
  cases hq : P.info? elem with
  | none => simp [hq] at hs
  | some i =>
    simp [Builtin.copy_, run_underlying hu, Builtin.lenOf, Builtin.firstCells, sizeOf, typeInfo, hq]
    have e : List.map (fun b : UInt8 => Value.int IntKind.u8 (b.toNat : Int)) s.data.toList = Lib.byteCells s.data.toList := rfl
    rw [e, hst]
    simp [Result.andThen]

theorem grownBy_setRow (w : World) (g : Nat) (cs : Array Value) : w.grownBy (w.setRow g cs) (some g) :=
  ⟨rfl, rfl, rfl, by simp, fun k _ hk => setRow_other _ _ _ _ (fun e => hk (by rw [e]))⟩
/-! ### The blocks of a string of bytes -/
def blk (T : Bs) (j : Nat) : Bs := (T.drop (64 * j)).take 64
def blks (T : Bs) (j : Nat) : List Bs := (List.range j).map (blk T)
theorem blks_succ (T : Bs) (j : Nat) : blks T (j + 1) = blks T j ++ [blk T j] := by unfold blks; rw [List.range_succ, List.map_append]; rfl
theorem blks_length (T : Bs) (j : Nat) : (blks T j).length = j := by simp [blks]
/-- The first bytes of a block are there. -/
def Filled (T : Bs) (q : Nat) (L : Bs) : Prop := L.length = 64 ∧ L.take (q % 64) = (T.drop (64 * (q / 64))).take (q % 64)
def spliceL (L p : Bs) (u n : Nat) : Bs := L.take u ++ p.take n ++ L.drop (u + n)
theorem splice_length (L p : Bs) (u n : Nat) (hL : L.length = 64) (hn : n ≤ p.length) (hu : u + n ≤ 64) : (spliceL L p u n).length = 64 := by
  unfold spliceL
  simp only [List.length_append, List.length_take, List.length_drop, hL]
  omega
theorem splice_take (T L p r : Bs) (q n : Nat) (hf : Filled T q L) (hT : T.drop q = p ++ r) (hn : n ≤ p.length) (hu : q % 64 + n ≤ 64) :
    (spliceL L p (q % 64) n).take (q % 64 + n) = (T.drop (64 * (q / 64))).take (q % 64 + n) := by
  obtain ⟨hL, hf⟩ := hf
  have h1 : (L.take (q % 64) ++ p.take n).length = q % 64 + n := by
    rw [List.length_append, List.length_take, List.length_take]; omega
  unfold spliceL
  rw [List.take_append_of_le_length (by omega), List.take_of_length_le (by omega), hf, List.take_add]
  congr 1
  rw [List.drop_drop, show 64 * (q / 64) + q % 64 = q by omega, hT, List.take_append_of_le_length hn]
theorem filled_some (T L p r : Bs) (q n : Nat) (hf : Filled T q L) (hT : T.drop q = p ++ r) (hn : n ≤ p.length) (hu : q % 64 + n < 64) :
    Filled T (q + n) (spliceL L p (q % 64) n) := by
  refine ⟨splice_length _ _ _ _ hf.1 hn (by omega), ?_⟩
  have h := splice_take T L p r q n hf hT hn (by omega)
  rw [show (q + n) % 64 = q % 64 + n by omega, show (q + n) / 64 = q / 64 by omega]
  exact h
theorem filled_all (T L p r : Bs) (q n : Nat) (hf : Filled T q L) (hT : T.drop q = p ++ r) (hn : n ≤ p.length) (hu : q % 64 + n = 64) :
    spliceL L p (q % 64) n = blk T (q / 64) := by
  have h := splice_take T L p r q n hf hT hn (by omega)
  rw [hu, List.take_of_length_le (by rw [splice_length _ _ _ _ hf.1 hn (by omega)]; exact Nat.le_refl _)] at h
  exact h
theorem filled_next (T : Bs) (q n : Nat) (L : Bs) (hL : L.length = 64) (hu : q % 64 + n = 64) : Filled T (q + n) L :=
  ⟨hL, by rw [show (q + n) % 64 = 0 by omega]; rfl⟩
theorem cells8_splice (L p : Bs) (u n : Nat) : ((cells8 L).toArray.toList.take u ++ (Lib.byteCells p).take n ++ (cells8 L).toArray.toList.drop (u + n)).toArray = (cells8 (spliceL L p u n)).toArray := by
  unfold spliceL cells8 Lib.byteCells
  simp [List.map_take, List.map_drop]
theorem KeepC.cell {g : Nat} {W W' : World} (h : KeepC g W W') {a : Addr} {v : Value} (hne : a.block ≠ g) (hc : W.cell? a = some v) : W'.cell? a = some v := by
  obtain ⟨o, ho, hu⟩ := cells_of_cell hc
  have h2 := h.2 a.block o hne ho hu
  rw [World.cell?_of_block (w := W) (w' := W') (by rw [h2, ho])]
  exact hc

theorem ext_list (s : ByteArray) (n : Nat) : (s.extract n s.size).data.toList = s.data.toList.drop n := by
  rw [Lib.extract_data, List.take_of_length_le (by simp)]
theorem size_list (s : ByteArray) : s.size = s.data.toList.length := by simp
abbrev zeros64b : Array Value := #[.int .u8 0, .int .u8 0, .int .u8 0, .int .u8 0, .int .u8 0, .int .u8 0, .int .u8 0, .int .u8 0, .int .u8 0, .int .u8 0, .int .u8 0, .int .u8 0, .int .u8 0, .int .u8 0, .int .u8 0, .int .u8 0, .int .u8 0, .int .u8 0, .int .u8 0, .int .u8 0, .int .u8 0, .int .u8 0, .int .u8 0, .int .u8 0, .int .u8 0, .int .u8 0, .int .u8 0, .int .u8 0, .int .u8 0, .int .u8 0, .int .u8 0, .int .u8 0, .int .u8 0, .int .u8 0, .int .u8 0, .int .u8 0, .int .u8 0, .int .u8 0, .int .u8 0, .int .u8 0, .int .u8 0, .int .u8 0, .int .u8 0, .int .u8 0, .int .u8 0, .int .u8 0, .int .u8 0, .int .u8 0, .int .u8 0, .int .u8 0, .int .u8 0, .int .u8 0, .int .u8 0, .int .u8 0, .int .u8 0, .int .u8 0, .int .u8 0, .int .u8 0, .int .u8 0, .int .u8 0, .int .u8 0, .int .u8 0, .int .u8 0, .int .u8 0]
def sizeV : Value → Nat
  | .string s => s.size
  | _ => 0
theorem spliceLen (L p : Bs) (u n : Nat) (hL : L.length = 64) (hn : n ≤ p.length) (hu : u + n ≤ 64) : (spliceL L p u n).length = 64 := splice_length L p u n hL hn hu

set_option maxRecDepth 100000 in
set_option maxHeartbeats 4000000 in
theorem blocks1_in (n : Nat) (g Bx gb go cap : Nat) (parts : List Bs) (w : World) (hg : g < w.heap.size) (hgb : gb ≠ g)
    (hbox : w.cell? ⟨Bx, 0, none⟩ = some (.slice (some ⟨gb, go, none⟩) parts.length cap)) (hs : StrsAt w gb go parts) (hcap : parts.length ≤ cap) (hpl : parts.length ≤ 1000) (hT : parts.flatten.length ≤ 1000000000000) :
    GivesMem Fence.wide n Tryz.prog 100 #[.pointer (some ⟨Bx, 0, none⟩)] (fun x : Bs => #[Value.agg (cells8 x).toArray]) (fun x => x.length = 64) g (parts.flatten.length / 64) (blks parts.flatten (parts.flatten.length / 64)) w := by
  obtain ⟨T, hTe⟩ : ∃ T, parts.flatten = T := ⟨_, rfl⟩
  rw [hTe] at hT ⊢
  have HTe := Lib.hid hTe
  clear hTe
  rintro l J W hw hsz hJ hY h0
  refine callsIn_of_wp Tryz.func100 rfl trivial ?_ rfl
  simp only [Tryz.ntmps100, List.size_toArray, List.length_cons, List.length_nil, Nat.reduceAdd, Nat.reduceSub, Array.replicate_succ, Array.replicate_zero, List.push_toArray, List.append_toArray, List.nil_append, List.cons_append]
  have hbW : W.cell? ⟨Bx, 0, none⟩ = some (.slice (some ⟨gb, go, none⟩) parts.length cap) := (World.cell?_of_block (hw.block _ (lt_of_cell hbox) (by simp))).trans hbox
  have hsW : StrsAt W gb go parts := fun i hi => (World.cell?_of_block (hw.block _ (lt_of_cell (hs i hi)) (by simp))).trans (hs i hi)
  gi_wp2
  refine (wpIn_wide (n := n)).2 (wp_scope_straight ((wpIn_wide (n := n)).1 ?_))
  gi_wp2
  refine wpIn_label ?_
  have HJ := Lib.hid hJ
  have HY := Lib.hid hY
  clear hJ hY
  have hB0g : W.heap.size ≠ g := by have := hsz; omega
  have hBxlt : Bx < W.heap.size := lt_of_cell hbW
  obtain ⟨W0, hW0, e0, eb, es, ej, z0⟩ : ∃ W0, W.alloc (.cells zeros64b 106) = W0 ∧ Hid (Arr8 W0 W.heap.size 106 (List.replicate 64 0)) ∧ W0.cell? ⟨Bx, 0, none⟩ = some (.slice (some ⟨gb, go, none⟩) parts.length cap) ∧ Hid (StrsAt W0 gb go parts) ∧ Hid (J [] W0) ∧ W.heap.size < W0.heap.size :=
    ⟨_, rfl, Lib.hid (heap_alloc_new W _), (World.cell?_of_block (Below.heap_alloc _ _ _ hBxlt)).trans hbW, Lib.hid fun i hi => (World.cell?_of_block (Below.heap_alloc _ _ _ (lt_of_cell (hsW i hi)))).trans (hsW i hi),
      Lib.hid (HJ.out _ _ _ none h0 (World.grownBy_alloc W _ none) (fun r e => by cases e)), by simp⟩
  rw [hW0]
  have hgbB : parts ≠ [] → gb ≠ W.heap.size := fun h => by have h2 : gb < W.heap.size := lt_of_cell (hsW 0 (List.length_pos_iff.2 h)); omega
  have Hgb := Lib.hid hgbB
  obtain ⟨B0, hB0⟩ : ∃ B0, W.heap.size = B0 := ⟨_, rfl⟩
  rw [hB0] at e0 z0 hB0g HJ Hgb ⊢
  clear hW0 hsW hbW h0 hw hsz hs hbox hBxlt hgbB hB0 hg
  obtain ⟨np, hnp⟩ : ∃ np, parts.length = np := ⟨_, rfl⟩
  rw [hnp] at eb hcap hpl
  have Hnp := Lib.hid hnp
  have hi62 : (Tryz.prog.info? 106).map (·.size) = some 64 := by kernel_rfl
  have hi5 : (Tryz.prog.info? 5).map (·.size) = some 1 := by kernel_rfl
  clear hnp
  gi_wp2
  gi_loopw [4, 10] (fun uv iv wr => ∃ (i q : Nat) (L : Bs), i ≤ np ∧ iv = .int .i64 i ∧ uv = .int .i64 ((q % 64 : Nat) : Int) ∧ Hid (q ≤ T.length) ∧ Hid (T.drop q = (parts.drop i).flatten) ∧ Hid (Filled T q L) ∧ Hid (Arr8 wr B0 106 L) ∧ Hid (StrsAt wr gb go parts) ∧ Hid (J (blks T (q / 64)) wr))
    (fun _ iv _ => np - (intOf iv).toNat)
  case atStart =>
    exact ⟨0, 0, List.replicate 64 0, by omega, rfl, rfl, Lib.hid (Nat.zero_le _), Lib.hid (by rw [← HTe.out]; rfl), Lib.hid ⟨rfl, rfl⟩, e0, es, ej⟩
  case round =>
    obtain ⟨i, q, L, hi, rfl, rfl, Hq, Hd, Hf, eA, eS, eJ⟩ := hrel
    by_cases hlt : i < np
    · have hsi := eS.out i (by rw [Hnp.out]; exact hlt)
      have Hd2 : Hid (T.drop q = (parts.getD i []) ++ (parts.drop (i + 1)).flatten) := Lib.hid (by
        have hil : i < parts.length := by rw [Hnp.out]; exact hlt
        rw [Hd.out, List.drop_eq_getElem_cons hil, List.flatten_cons, List.getD_eq_getElem?_getD, List.getElem?_eq_getElem hil]; rfl)
      have hne : parts ≠ [] := fun e => by have := Hnp.out; rw [e] at this; simp at this; omega
      have hgB := Hgb.out hne
      have Hd3 : Hid (T.drop q = (⟨(parts.getD i []).toArray⟩ : ByteArray).data.toList ++ (parts.drop (i + 1)).flatten) := Lib.hid Hd2.out
      clear Hd Hd2 hne
      generalize (⟨(parts.getD i []).toArray⟩ : ByteArray) = s0 at hsi Hd3
      generalize hR : (parts.drop (i + 1)).flatten = R at Hd3
      have HR := Lib.hid hR
      clear hR
      gi_wp2
      gi_loopw [4, 6] (fun uv sv wr => ∃ (q : Nat) (L : Bs) (s : ByteArray), sv = .string s ∧ uv = .int .i64 ((q % 64 : Nat) : Int) ∧ Hid (q ≤ T.length) ∧ Hid (T.drop q = s.data.toList ++ R) ∧ Hid (Filled T q L) ∧ Hid (Arr8 wr B0 106 L) ∧ Hid (StrsAt wr gb go parts) ∧ Hid (J (blks T (q / 64)) wr))
        (fun _ sv _ => sizeV sv)
      case atStart => exact ⟨q, L, s0, rfl, rfl, Hq, Hd3, Hf, eA, eS, eJ⟩
      case round =>
        obtain ⟨q, L, s, rfl, rfl, Hq, Hd, Hf, eA, eS, eJ⟩ := hrel
        clear Hd3 hsi
        have hsl : s.size + R.length + q = T.length := by
          have h := congrArg List.length Hd.out
          rw [List.length_drop, List.length_append, ← size_list] at h
          have := Hq.out
          omega
        obtain ⟨u, hu⟩ : ∃ u, q % 64 = u := ⟨_, rfl⟩
        rw [hu]
        have hu64 : u < 64 := by omega
        obtain ⟨m, hm⟩ : ∃ m, min s.size (64 - u) = m := ⟨_, rfl⟩
        have hms : m ≤ s.size := by omega
        have hmu : u + m ≤ 64 := by omega
        have hlen := spliceLen L s.data.toList u m Hf.out.1 (by rw [← size_list]; exact hms) hmu
        have hcp0 := run_copy_row_min (P := Tryz.prog) wr 94 9 3 5 B0 u (64 - u) (64 - u) s (cells8 L).toArray 106 Tryz.underlying94 hi5 eA.out
          (by rw [hm]; simp [cells8_length, Hf.out.1]; omega)
        rw [hm, cells8_splice] at hcp0
        have Hcp := Lib.hid hcp0
        have hq62 : (Tryz.prog.info? 106).map (·.size) = some (cells8 (spliceL L s.data.toList u m)).toArray.size := hi62.trans (by simp [cells8_length, hlen])
        have eA2 : (wr.setRow B0 (cells8 (spliceL L s.data.toList u m)).toArray).heap[B0]? = some (.cells (cells8 (spliceL L s.data.toList u m)).toArray 106 (0, 0)) := setRow_heap _ _ _ _ _ _ eA.out
        have eS2 : Hid (StrsAt (wr.setRow B0 (cells8 (spliceL L s.data.toList u m)).toArray) gb go parts) := Lib.hid fun i hi => (cell_setRow_other _ _ _ _ (by exact hgB)).trans (eS.out i hi)
        have eJ2 : J (blks T (q / 64)) (wr.setRow B0 (cells8 (spliceL L s.data.toList u m)).toArray) := HJ.out _ _ _ _ eJ.out (grownBy_setRow _ _ _) (fun r e => by cases e; exact Nat.le_refl _)
        clear hcp0
        have b1 : (u : Int) ≤ 64 := by omega
        have b2 : (m : Int) ≤ (s.size : Int) := by omega
        have b3 : (s.size : Int) ≤ 1000000000000 := by omega
        generalize hL2 : spliceL L s.data.toList u m = L2 at *
        have Hsl := Lib.hid hsl
        by_cases hlt2 : u + m < 64
        · have hms2 : m = s.size := by omega
          have F2 : Filled T (q + m) L2 := by
            have := filled_some T L s.data.toList R q m Hf.out Hd.out (by rw [← size_list]; exact hms) (by omega)
            rw [hu, hL2] at this
            exact this
          have D2 : T.drop (q + m) = (parts.drop (i + 1)).flatten := by
            rw [HR.out, ← List.drop_drop, Hd.out, hms2]
            exact List.drop_left' (size_list s).symm
          have V2 : ((u : Int) + (m : Int)) = (((q + m) % 64 : Nat) : Int) := by omega
          have J2 : J (blks T ((q + m) / 64)) (wr.setRow B0 (cells8 L2).toArray) := by rw [show (q + m) / 64 = q / 64 by omega]; exact eJ2
          have hq2 : q + m ≤ T.length := by omega
          have Hst := Lib.hid (And.intro F2 (And.intro D2 (And.intro V2 (And.intro J2 hq2))))
          have hlt3 : (u : Int) + (m : Int) < 64 := by omega
          clear F2 D2 V2 J2 hq2 hsl hu hm hL2 hlen hq62 hms2 hlt2
          gi_wp2_with (refine wpListIn_copy_run wr rfl _ _ _ _ rfl _ _ rfl rfl Hcp.out ?_)
          obtain ⟨F2, D2, V2, J2, hq2⟩ := Hst.out
          exact ⟨⟨i + 1, q + m, L2, by omega, by go_num, by rw [V2], Lib.hid hq2, Lib.hid D2, Lib.hid F2, Lib.hid eA2, eS2, Lib.hid J2⟩, by simp [intOf]; omega⟩
        · have h64 : u + m = 64 := by omega
          have hblk : L2 = blk T (q / 64) := by
            have := filled_all T L s.data.toList R q m Hf.out Hd.out (by rw [← size_list]; exact hms) (by omega)
            rw [hu, hL2] at this
            exact this
          have F2 : Filled T (q + m) L2 := filled_next T q m L2 hlen (by omega)
          have D2 : T.drop (q + m) = (s.extract m s.size).data.toList ++ R := by
            rw [ext_list, ← List.drop_drop, Hd.out, List.drop_append_of_le_length (by rw [← size_list]; exact hms)]
          have V2 : (0 : Int) = (((q + m) % 64 : Nat) : Int) := by omega
          have hq2 : q + m ≤ T.length := by omega
          have hb2 : blks T (q / 64) ++ [L2] = blks T ((q + m) / 64) := by rw [show (q + m) / 64 = q / 64 + 1 by omega, blks_succ, hblk]
          have hmz : (s.extract m s.size).size < s.size := by rw [size_list, ext_list, List.length_drop, ← size_list]; omega
          have Hst := Lib.hid (And.intro F2 (And.intro D2 (And.intro V2 (And.intro hb2 (And.intro hq2 hmz)))))
          obtain ⟨fn, tmps, assign, body, hy, hR2⟩ := HY.out (blks T (q / 64)) L2 _ hlen eJ2 (by rw [blks_length]; omega)
          have hlt3 : (64 : Int) ≤ (u : Int) + (m : Int) := by omega
          clear F2 D2 V2 hq2 hsl hu hm hL2 hlen hms hb2 hmz hblk h64 hlt2 eJ2
          gi_wp2_with (first
            | (refine wpListIn_copy_run wr rfl _ _ _ _ rfl _ _ rfl rfl Hcp.out ?_)
            | (refine wpListIn_load_row rfl 106 _ rfl B0 rfl _ _ _ _ eA2 Tryz.underlying106 rfl hq62 ?_))
          refine ⟨(fun h => nomatch h), hR2.mono ?_⟩
          rintro e W' ⟨rfl, hJ', hk⟩
          have eA3 : Hid (Arr8 W' B0 106 L2) := Lib.hid (hk.2 _ _ hB0g eA2 rfl)
          have eS3 : Hid (StrsAt W' gb go parts) := Lib.hid fun i hi => hk.cell (by exact hgb) (eS2.out i hi)
          have HJ' := Lib.hid hJ'
          clear hy hR2 hJ' hk eA2 eS2 Hcp
          gi_wp2
          obtain ⟨F2, D2, V2, hb2, hq2, hmz⟩ := Hst.out
          refine ⟨⟨q + m, L2, s.extract m s.size, rfl, by rw [V2], Lib.hid hq2, Lib.hid D2, Lib.hid F2, eA3, eS3, Lib.hid (by rw [← hb2]; exact HJ'.out)⟩, hmz⟩
    · obtain rfl : i = np := by omega
      have hq2 : T.length ≤ q := by
        have h := Hd.out
        rw [show parts.drop i = [] from List.drop_of_length_le (by rw [Hnp.out]; exact Nat.le_refl _)] at h
        have h2 := congrArg List.length h
        rw [List.length_drop] at h2
        simp at h2
        omega
      have hqT : q = T.length := by have := Hq.out; omega
      have HqT := Lib.hid hqT
      clear hq2 hqT hlt
      gi_wp2
      simp only [Exit.noGoto]
      go_end0
      exact ⟨⟨_, rfl⟩, by rw [← HqT.out]; exact eJ.out⟩
end Go.Proofs.YtnndnjnpkjpkpaaGreatDoor
namespace Go.Proofs.YtnndnjnpkjpkpaaGreatDoor
open Go.RowKit
def padL (n : Nat) : Bs := 128 :: (List.replicate (padZ n) 0 ++ be8 (8 * n))
theorem padF_eq (s : Bs) : padF s = s ++ padL s.length := rfl
/-- The last bytes are set. -/
def padAt (n i : Nat) : Bs := 128 :: (List.replicate (padZ n + (8 - i)) 0 ++ (be8 (8 * n)).drop (8 - i))
theorem padAt_length (n i : Nat) (h : i ≤ 8) : (padAt n i).length = 9 + padZ n := by
  unfold padAt be8
  simp only [List.length_cons, List.length_append, List.length_replicate, List.length_drop, List.length_map, List.length_range]
  omega
theorem padAt_zero (n : Nat) : padAt n 0 = (List.replicate (9 + padZ n) (0 : UInt8)).set 0 128 := by
  unfold padAt
  rw [List.drop_of_length_le (by simp [be8]), List.append_nil, show 9 + padZ n = (padZ n + (8 - 0)) + 1 by omega]
  generalize padZ n + (8 - 0) = m
  rfl
theorem padAt_full (n : Nat) : padAt n 8 = padL n := rfl
theorem be8_get (n i : Nat) (h : i < 8) : (be8 n).drop (7 - i) = UInt8.ofNat (n / 2 ^ (8 * i)) :: (be8 n).drop (8 - i) := by
  have hl : 7 - i < (be8 n).length := by simp [be8]; omega
  rw [List.drop_eq_getElem_cons hl, show 7 - i + 1 = 8 - i by omega]
  congr 1
  simp only [be8, List.getElem_map, List.getElem_range]
  rw [show 7 - (7 - i) = i by omega]
theorem padAt_set (n i : Nat) (h : i < 8) : (padAt n i).set (8 + padZ n - i) (UInt8.ofNat (8 * n / 2 ^ (8 * i))) = padAt n (i + 1) := by
  unfold padAt
  rw [show 8 + padZ n - i = (padZ n + (7 - i)) + 1 by omega, List.set_cons_succ]
  congr 1
  rw [show padZ n + (8 - i) = (padZ n + (7 - i)) + 1 by omega, List.replicate_succ', List.append_assoc, List.set_append_right _ _ (by simp), show 8 - (i + 1) = 7 - i by omega, be8_get _ _ h]
  simp

theorem cells8_set (l : Bs) (i : Nat) (x : UInt8) (v : Int) (h : ((x.toNat : Nat) : Int) = v) : (cells8 l).toArray.setIfInBounds i (.int .u8 v) = (cells8 (l.set i x)).toArray := by
  apply Array.ext'
  rw [← h]
  simp [cells8, List.map_set]
theorem Arr8.set {w : World} {B : Nat} {t : TypeId} {l : Bs} (h : Arr8 w B t l) (i : Nat) (x : UInt8) (v : Int) (hv : ((x.toNat : Nat) : Int) = v) : Arr8 (w.setCell ⟨B, i, none⟩ (.int .u8 v)) B t (l.set i x) := by
  unfold Arr8
  rw [heap_setCell_same _ _ _ _ _ _ h, cells8_set _ _ _ _ hv]

set_option maxRecDepth 100000 in
set_option maxHeartbeats 2000000 in
theorem padding_calls (n : Nat) (w : World) (hn : n ≤ 1000000000000000) :
    Calls Tryz.prog 76 #[.int .i64 (n : Int)] w fun e W' => e = .returned (.string ⟨(padL n).toArray⟩) ∧ Below w.heap.size w W' := by
  go_enter Tryz.func76, Tryz.ntmps76
  have hN : 1 + -(((n : Int) + 1 + 8) % 64) % 64 + 8 = ((9 + padZ n : Nat) : Int) := by unfold padZ; omega
  have hNl : 9 + padZ n ≤ 72 := by unfold padZ; omega
  have hmk0 := run_make_row' (P := Tryz.prog) 94 5 (.int .u8 0) 1 Tryz.underlying94 (by kernel_rfl) rfl .i64 .i64 (9 + padZ n) (by omega) (by omega) w
  have hz : madeCells #[Value.int .u8 0] (9 + padZ n) = (cells8 (List.replicate (9 + padZ n) 0)).toArray := by
    apply Array.ext'
    simp [madeCells, cells8]
    apply List.ext_getElem (by simp)
    intro i h1 h2
    simp [Nat.mod_one]
  rw [hz] at hmk0
  have HAt := Lib.hid (padAt_zero n)
  have Hlen := Lib.hid (padAt_length n)
  have hset : ∀ i, i < 8 → (padAt n i).set (9 + padZ n - 1 - i) (UInt8.ofNat (8 * n / 2 ^ (8 * i))) = padAt n (i + 1) := fun i hi => by
    rw [← padAt_set n i hi]; congr 1; omega
  have Hset := Lib.hid hset
  have hN9 : 9 ≤ 9 + padZ n := by omega
  generalize 9 + padZ n = N at *
  clear hz hset
  obtain ⟨W1, hW1, a1, b1⟩ : ∃ W1, w.alloc (.cells (cells8 (List.replicate N 0)).toArray 5) = W1 ∧ Hid (Arr8 W1 w.heap.size 5 (List.replicate N 0)) ∧ Below w.heap.size w W1 :=
    ⟨_, rfl, Lib.hid (heap_alloc_new w _), (Below.refl _ w).alloc (Nat.le_refl _) _⟩
  rw [hW1] at hmk0
  clear hW1
  have c0 := a1.out.cell 0 (by simp; omega)
  have cf : W1.frozen? ⟨w.heap.size, 0, none⟩ = false := frozen_of_row _ _ _ _ _ a1.out
  have hNp : (0 : Int) < (N : Int) := by omega
  go_wp2_with fail
  obtain ⟨W2, hW2, a1, b1⟩ : ∃ W2, W1.setCell ⟨w.heap.size, 0, none⟩ (.int .u8 128) = W2 ∧ Hid (Arr8 W2 w.heap.size 5 (padAt n 0)) ∧ Below w.heap.size w W2 :=
    ⟨_, rfl, Lib.hid (by rw [HAt.out]; exact a1.out.set 0 128 128 rfl), b1.setCell (Nat.le_refl _) _⟩
  rw [hW2]
  clear hW2 hmk0 HAt hN c0 cf
  go_loopw [22] (fun iv wr => ∃ i : Nat, i ≤ 8 ∧ iv = .int .i64 i ∧ Hid (Arr8 wr w.heap.size 5 (padAt n i)) ∧ Below w.heap.size w wr) (fun iv _ => 8 - (intOf iv).toNat)
  case atStart => exact ⟨0, by omega, rfl, a1, b1⟩
  case round =>
    obtain ⟨i, hi, rfl, aR, bR⟩ := hrel
    by_cases hlt : i < 8
    · have c0 := aR.out.cell (N - 1 - i) (by rw [Hlen.out i hi]; omega)
      have cf : wr.frozen? ⟨w.heap.size, N - 1 - i, none⟩ = false := frozen_of_row _ _ _ _ _ aR.out
      have e1 : IntKind.i64.wrap ((N : Int) - 1 - (i : Int)) = (N : Int) - 1 - (i : Int) := IntWalk.i64_in _ (by omega)
      have e2 : ((N : Int) - 1 - (i : Int)).toNat = N - 1 - i := by omega
      have e3 : 0 ≤ (N : Int) - 1 - (i : Int) := by omega
      have e4 : (N : Int) - 1 - (i : Int) < (N : Int) := by omega
      have e5 : 8 * (i : Int) < 64 := by omega
      have e6 : (8 * (i : Int)).toNat = 8 * i := by omega
      go_wp2_with fail
      have hv : (((UInt8.ofNat (8 * n / 2 ^ (8 * i))).toNat : Nat) : Int) = (n : Int) * 8 / 2 ^ (8 * i) % 256 := by
        rw [UInt8.toNat_ofNat', Nat.mul_comm 8 n]
        simp
      have hA := aR.out.set (N - 1 - i) _ _ hv
      rw [Hset.out i hlt] at hA
      exact ⟨⟨i + 1, by omega, by go_num, Lib.hid hA, bR.setCell (Nat.le_refl _) _⟩, by simp [intOf]; omega⟩
    · obtain rfl : i = 8 := by omega
      have hcv := run_convert_bytes_arg (P := Tryz.prog) wr 94 5 Tryz.underlying94 Tryz.underlying5 w.heap.size 0 N N ((padL n).map fun b => ((b.toNat : Nat) : Int)) (by rw [List.length_map, ← padAt_full, Hlen.out 8 (by omega)]) (fun j hj => by
        rw [Nat.zero_add, aR.out.cell j (by rw [Hlen.out 8 (by omega)]; exact hj), padAt_full]
        have hj2 : j < (padL n).length := by rw [← padAt_full, Hlen.out 8 (by omega)]; exact hj
        simp [List.getElem?_map, List.getElem?_eq_getElem hj2]) 9 Tryz.underlying9
      rw [str_bytes] at hcv
      go_wp2_with fail
      go_ret
      exact ⟨rfl, bR⟩
end Go.Proofs.YtnndnjnpkjpkpaaGreatDoor
namespace Go.Proofs.YtnndnjnpkjpkpaaGreatDoor
open Go.RowKit Go.Shelf
attribute [local go_sem] Oper.semAt_some

theorem run_build8 (a b c d e f g h : Int) (w : World) : (Instr.build 102 #[(0, .int .u32 a), (1, .int .u32 b), (2, .int .u32 c), (3, .int .u32 d), (4, .int .u32 e), (5, .int .u32 f), (6, .int .u32 g), (7, .int .u32 h)]).run Tryz.prog w =
    .ok (.agg #[.int .u32 a, .int .u32 b, .int .u32 c, .int .u32 d, .int .u32 e, .int .u32 f, .int .u32 g, .int .u32 h]) w := run_build w _ _ _ (built8 a b c d e f g h)
theorem wpListIn_build8 {F : Fence} {n : Nat} {ops : Array Oper} {rest : List Oper} {o : Oper} {ac : Act} {w : World} {Q : Exit → Act → World → Prop} (hgd : o.guard = none) (a b c d e f g h : Int)
    (ho : o.op = .build 102 #[(0, .const (.int .u32 a)), (1, .const (.int .u32 b)), (2, .const (.int .u32 c)), (3, .const (.int .u32 d)), (4, .const (.int .u32 e)), (5, .const (.int .u32 f)), (6, .const (.int .u32 g)), (7, .const (.int .u32 h))])
    (hk : wpListIn F n Tryz.prog ops Q rest (ac.put o.dst (.agg #[.int .u32 a, .int .u32 b, .int .u32 c, .int .u32 d, .int .u32 e, .int .u32 f, .int .u32 g, .int .u32 h])) w) : wpListIn F n Tryz.prog ops Q (o :: rest) ac w := by
  refine wpListIn_plain hgd fun K hK => ⟨by simp [Oper.about, ho], ?_⟩
  rw [Oper.semAt_plain F _ _ (by rw [ho]; intro c hc; cases hc)]
  simp only [execOp, ho, List.map_toArray, List.map_cons, List.map_nil, Act.eval, Sem.run_bind, run_build8, Result.andThen_ok]
  exact hK _ _ hk

/-- The words after a list of blocks. -/
def hashL (l : List Bs) : Eight := l.foldl blockE initE
theorem hashL_snoc (l : List Bs) (x : Bs) : hashL (l ++ [x]) = blockE (hashL l) x := by unfold hashL; rw [List.foldl_append]; rfl
theorem hashL_blks (T : Bs) (j : Nat) : hashL (blks T j) = hashN T j := by
  induction j with
  | zero => rfl
  | succ j ih => rw [blks_succ, hashL_snoc, ih]; rfl
theorem hashL_ok (l : List Bs) : okE (hashL l) := by
  have h : ∀ (v : Eight) (l : List Bs), okE v → okE (l.foldl blockE v) := by
    intro v l
    induction l generalizing v with
    | nil => exact fun h => h
    | cons x l ih => exact fun _ => ih _ (addE_ok _ _)
  exact h _ _ ⟨by decide, by decide, by decide, by decide, by decide, by decide, by decide, by decide⟩

theorem blocks_in (n : Nat) (gb l c : Nat) (w : World) :
    CallsIn Fence.wide n Tryz.prog 75 #[.slice (some ⟨gb, 0, none⟩) l c] w fun e w' => e = .returned (.func (.func 100) #[] #[.pointer (some ⟨w.heap.size, 0, none⟩)]) ∧ w' = w.alloc (.cells #[.slice (some ⟨gb, 0, none⟩) l c] 24) := by
  refine callsIn_of_wp Tryz.func75 rfl trivial ?_ rfl
  simp only [Tryz.ntmps75, List.size_toArray, List.length_cons, List.length_nil, Nat.reduceAdd, Nat.reduceSub, Array.replicate_succ, Array.replicate_zero, List.push_toArray, List.append_toArray, List.nil_append, List.cons_append]
  gi_wp2
  go_ret
  exact ⟨rfl, rfl⟩

def sizesTo (l : List Bs) (i : Nat) : Nat := (l.take i).flatten.length
theorem sizesTo_succ (l : List Bs) (i : Nat) (h : i < l.length) : sizesTo l (i + 1) = sizesTo l i + (l.getD i []).length := by
  unfold sizesTo
  rw [List.take_succ_eq_append_getElem h, List.flatten_append, List.length_append, List.getD_eq_getElem?_getD, List.getElem?_eq_getElem h]
  simp

theorem cells8_one (l : Bs) : (cells8 l).toArray.all (·.oneCell') = true := by
  rw [Array.all_eq_true_iff_forall_mem]
  intro x hx
  obtain ⟨y, _, rfl⟩ := List.mem_map.1 (List.mem_toArray.1 hx)
  rfl
abbrev zeros32b : Array Value := #[.int .u8 0, .int .u8 0, .int .u8 0, .int .u8 0, .int .u8 0, .int .u8 0, .int .u8 0, .int .u8 0, .int .u8 0, .int .u8 0, .int .u8 0, .int .u8 0, .int .u8 0, .int .u8 0, .int .u8 0, .int .u8 0, .int .u8 0, .int .u8 0, .int .u8 0, .int .u8 0, .int .u8 0, .int .u8 0, .int .u8 0, .int .u8 0, .int .u8 0, .int .u8 0, .int .u8 0, .int .u8 0, .int .u8 0, .int .u8 0, .int .u8 0, .int .u8 0]
def fillB (v : Eight) (i : Nat) : Bs := (bytesE v).take i ++ List.replicate (32 - i) 0
theorem fillB_length (v : Eight) (i : Nat) : (fillB v i).length = 32 ∨ 32 < i := by
  by_cases h : i ≤ 32
  · left
    unfold fillB
    rw [List.length_append, List.length_take, List.length_replicate, show (bytesE v).length = 32 from rfl]
    omega
  · right; omega
theorem bytesE_get (v : Eight) (i : Nat) (h : i < 32) : (bytesE v).getD i 0 = UInt8.ofNat ((listE v).getD (i / 4) 0 >>> (24 - 8 * (i % 4))) := by
  match i, h with
  | 0, _ => rfl
  | 1, _ => rfl
  | 2, _ => rfl
  | 3, _ => rfl
  | 4, _ => rfl
  | 5, _ => rfl
  | 6, _ => rfl
  | 7, _ => rfl
  | 8, _ => rfl
  | 9, _ => rfl
  | 10, _ => rfl
  | 11, _ => rfl
  | 12, _ => rfl
  | 13, _ => rfl
  | 14, _ => rfl
  | 15, _ => rfl
  | 16, _ => rfl
  | 17, _ => rfl
  | 18, _ => rfl
  | 19, _ => rfl
  | 20, _ => rfl
  | 21, _ => rfl
  | 22, _ => rfl
  | 23, _ => rfl
  | 24, _ => rfl
  | 25, _ => rfl
  | 26, _ => rfl
  | 27, _ => rfl
  | 28, _ => rfl
  | 29, _ => rfl
  | 30, _ => rfl
  | 31, _ => rfl
  | n + 32, h => exact absurd h (by omega)
theorem fillB_set (v : Eight) (i : Nat) (h : i < 32) : (fillB v i).set i (UInt8.ofNat ((listE v).getD (i / 4) 0 >>> (24 - 8 * (i % 4)))) = fillB v (i + 1) := by
  have hb : (bytesE v).length = 32 := rfl
  have hl : ((bytesE v).take i).length = i := by rw [List.length_take, hb]; omega
  unfold fillB
  rw [← bytesE_get v i h, List.set_append_right _ _ (by omega), hl, Nat.sub_self, show 32 - i = (32 - (i + 1)) + 1 by omega, List.replicate_succ, List.set_cons_zero,
    List.take_succ_eq_append_getElem (by omega), List.append_assoc, List.getD_eq_getElem?_getD, List.getElem?_eq_getElem (by omega)]
  rfl
abbrev init8 : Array Value := #[.int .u32 1779033703, .int .u32 3144134277, .int .u32 1013904242, .int .u32 2773480762, .int .u32 1359893119, .int .u32 2600822924, .int .u32 528734635, .int .u32 1541459225]
theorem row_keep {w w' : World} {base : Nat} {e : TypeId} {size g n c k : Nat} {xs : List Value} (h : w.ownsRow base e size (.slice (some ⟨g, 0, none⟩) n c) k xs) (hb : w'.heap[g]? = w.heap[g]?) : w'.ownsRow base e size (.slice (some ⟨g, 0, none⟩) n c) k xs := by
  obtain ⟨h1, h2⟩ := h
  refine ⟨h1, ?_⟩
  rcases h2 with ⟨h, _⟩ | ⟨g', cap, cur, hv, hb2, hg, rest⟩
  · cases h
  · cases hv
    exact Or.inr ⟨_, _, _, rfl, hb2, hb.trans hg, rest⟩
theorem row_strs {w : World} {base : Nat} {g n c : Nat} {l : List Bs} (h : w.ownsRow base 9 1 (.slice (some ⟨g, 0, none⟩) n c) n (cellsS l)) : StrsAt w g 0 l := fun i hi => by
  have h1 : (cellsS l)[i]? = some (.string ⟨(l.getD i []).toArray⟩) := by
    unfold cellsS
    rw [List.getElem?_map, List.getElem?_eq_getElem hi, List.getD_eq_getElem?_getD, List.getElem?_eq_getElem hi]
    rfl
  have h2 := World.ownsRow.cells h rfl _ _ h1
  have e : Addr.add ⟨g, 0, none⟩ i = ⟨g, i, none⟩ := by unfold Addr.add; split <;> simp_all
  rw [e] at h2
  rw [Nat.zero_add]
  exact h2

theorem cells32E_size (v : Eight) : (cells32 (listE v)).toArray.size = 8 := by rw [List.size_toArray, cells32_length]; rfl
theorem sum_keep (pb : Nat) (w W W3 : World) (l l' : List Nat) (hA3 : W3.heap[w.heap.size]? = some (.cells (cells32 l).toArray 102 (0, 0))) (hk : Konst W) (hb : Below pb w W) (hz : w.heap.size < W.heap.size) (b3 : Below W.heap.size W W3)
    (hpb : 0 < pb) (hpbw : pb < w.heap.size) :
    W.grownBy (W3.setRow w.heap.size (cells32 l').toArray) (some w.heap.size) ∧ (Hid (Arr32 (W3.setRow w.heap.size (cells32 l').toArray) w.heap.size 102 l') ∧ Hid (Konst (W3.setRow w.heap.size (cells32 l').toArray))) ∧
      Below pb w (W3.setRow w.heap.size (cells32 l').toArray) ∧ w.heap.size < W3.heap.size := by
  have hgr : W.grownBy (W3.setRow w.heap.size (cells32 l').toArray) (some w.heap.size) :=
    ⟨b3.os, b3.tape, b3.output, by rw [size_setRow]; exact b3.size, fun k hk hne => (setRow_other _ _ _ _ (fun e => hne (by rw [e]))).trans (b3.block k hk)⟩
  have hne : some 0 ≠ some w.heap.size := fun e => by
    have h1 : 0 = w.heap.size := Option.some.inj e
    rw [← h1] at hpbw
    exact absurd (Nat.lt_trans hpb hpbw) (Nat.lt_irrefl _)
  refine ⟨hgr, ⟨Lib.hid (setRow_heap _ _ _ _ _ _ hA3), Lib.hid fun j hj => (World.cell?_of_block (hgr.block _ hk.lt hne)).trans (hk j hj)⟩, hb.grown hgr ?_ ?_, ?_⟩
  · exact Nat.le_of_lt (Nat.lt_trans hpbw hz)
  · intro k e
    cases e
    exact Nat.le_of_lt hpbw
  · exact Nat.lt_of_lt_of_le hz b3.size

set_option maxRecDepth 100000 in
set_option maxHeartbeats 4000000 in
theorem sum_in (parts : List Bs) (pb : Nat) (w : World) (hK : Konst w) (hpb : 0 < pb) (hrow : w.ownsRow pb 9 1 (.slice (some ⟨pb, 0, none⟩) parts.length parts.length) parts.length (cellsS parts)) (hp1 : 1 ≤ parts.length) (hp : parts.length ≤ 3)
    (hT : parts.flatten.length ≤ 100000000000) :
    CallsIn Fence.wide 3 Tryz.prog 61 #[.slice (some ⟨pb, 0, none⟩) parts.length parts.length] w fun e W' => e = .returned (.string ⟨(shaF parts.flatten).toArray⟩) ∧ Below pb w W' := by
  obtain ⟨T, hTe⟩ : ∃ T, parts.flatten = T := ⟨_, rfl⟩
  rw [hTe] at hT ⊢
  refine callsIn_of_wp_marks Tryz.func61 rfl trivial ?_ rfl
  simp only [Tryz.ntmps61, List.size_toArray, List.length_cons, List.length_nil, Nat.reduceAdd, Nat.reduceSub, Array.replicate_succ, Array.replicate_zero, List.push_toArray, List.append_toArray, List.nil_append, List.cons_append]
  obtain ⟨i0, hi, hz0, hz1, hz2⟩ := info_parts (show (Tryz.prog.info? 9).map (fun i => (i.zero, i.size, i.bytes)) = some (some (.string ⟨#[]⟩), 1, 16) from by kernel_rfl)
  have hi58 : (Tryz.prog.info? 102).map (·.size) = some 8 := by kernel_rfl
  have hpbw : pb < w.heap.size := by
    obtain ⟨g, c, h1, h2, h3⟩ := hrow.form (by omega)
    cases h1
    exact h3
  gi_wp2_with (first
    | (refine wpListIn_build8 rfl _ _ _ _ _ _ _ _ rfl ?_)
    | (refine wpListIn_store_row rfl 102 _ _ rfl w.heap.size (cells32 (listE initE)).toArray rfl rfl 102 zeros8 (heap_alloc_new w _) hi58 rfl rfl ?_))
  obtain ⟨W0, hW0, a0, b0, z0⟩ : ∃ W0, w.alloc (.cells init8 102) = W0 ∧ Hid (Arr32 W0 w.heap.size 102 (listE initE)) ∧ Below w.heap.size w W0 ∧ W0.heap.size = w.heap.size + 1 :=
    ⟨_, rfl, Lib.hid (heap_alloc_new w _), (Below.refl _ w).alloc (Nat.le_refl _) _, by simp⟩
  rw [hW0]
  have k0 := Lib.hid (hK.keep b0)
  have hrow0 : W0.ownsRow pb 9 1 (.slice (some ⟨pb, 0, none⟩) parts.length parts.length) parts.length (cellsS parts) := by rw [← hW0]; exact hrow.alloc _
  have Hrow := Lib.hid hrow0
  have hs0 := Lib.hid (row_strs hrow0)
  have Hsz := Lib.hid (sizesTo_succ parts)
  have HszT : Hid (sizesTo parts parts.length = T.length) := Lib.hid (by unfold sizesTo; rw [List.take_of_length_le (Nat.le_refl _), hTe])
  have hle : ∀ i, sizesTo parts i ≤ 100000000000 := fun i => by
    have : sizesTo parts i ≤ T.length := by
      rw [← hTe]
      unfold sizesTo
      conv => rhs; rw [← List.take_append_drop i parts, List.flatten_append, List.length_append]
      omega
    omega
  have Hle := Lib.hid hle
  have Hlen : Hid (∀ i, i < parts.length → (parts.getD i []).length ≤ 100000000000) := Lib.hid fun i hi => by
    have h1 := hle (i + 1)
    rw [sizesTo_succ parts i hi] at h1
    omega
  have HTe := Lib.hid hTe
  clear hW0 hK hrow hrow0 hle hTe
  obtain ⟨np, hnp⟩ : ∃ np, parts.length = np := ⟨_, rfl⟩
  rw [hnp] at hp hp1 Hrow Hsz Hlen HszT ⊢
  have Hnp := Lib.hid hnp
  clear hnp
  gi_loopw [4, 13] (fun sv iv wr => ∃ i : Nat, i ≤ np ∧ iv = .int .i64 i ∧ sv = .int .i64 ((sizesTo parts i : Nat) : Int) ∧ wr = W0) (fun _ iv _ => np - (intOf iv).toNat)
  case atStart => exact ⟨0, by omega, rfl, rfl, rfl⟩
  case round =>
    obtain ⟨i, hin, rfl, rfl, rfl⟩ := hrel
    by_cases hlt : i < np
    · have hc := hs0.out i (by rw [Hnp.out]; exact hlt)
      rw [Nat.zero_add] at hc
      have h1 := Hsz.out i hlt
      have h2 := Hle.out (i + 1)
      have h3 := Hlen.out i hlt
      have h4 : ((⟨(parts.getD i []).toArray⟩ : ByteArray).size : Nat) = (parts.getD i []).length := mk_size _
      rw [← h4] at h1 h3
      generalize (⟨(parts.getD i []).toArray⟩ : ByteArray) = s at *
      rw [h1] at h2
      have H1 := Lib.hid h1
      clear h1 h4
      generalize sizesTo parts i = z at *
      gi_wp2
      refine ⟨⟨i + 1, by omega, by go_num, by rw [H1.out]; go_num, trivial⟩, by simp [intOf]; omega⟩
    · obtain rfl : i = np := by omega
      rw [HszT.out]
      gi_wp2
      refine ⟨trivial, ?_⟩
      refine (callsIn_wide.2 (padding_calls T.length _ (by omega))).mono ?_
      rintro e wP ⟨rfl, bP⟩
      have hrowP : wP.ownsRow pb 9 1 (.slice (some ⟨pb, 0, none⟩) i i) i (cellsS parts) := row_keep Hrow.out (bP.block _ (by omega))
      have zP := bP.size
      have aP : Hid (Arr32 wP w.heap.size 102 (listE initE)) := Lib.hid ((bP.block _ (by omega)).trans a0.out)
      have kP := Lib.hid (k0.out.keep bP)
      have bW : Below pb w wP := (b0.mono (by omega)).trans (bP.mono (by omega))
      clear a0 k0 b0 bP hs0 Hrow Hsz Hle Hlen HszT hlt
      gi_wp2_with (gi_at_builtin; refine wpListIn_append_own _ rfl _ _ 24 rfl pb 9 i0 (.string ⟨#[]⟩) 1 16 Tryz.underlying24 hi hz0 hz1 hz2 rfl (by decide) (.slice (some ⟨pb, 0, none⟩) i i) i (cellsS parts) rfl (hrowP.alloc _) ⟨wP.heap.size, 0, none⟩ 1 1 [.string ⟨(padL T.length).toArray⟩] rfl rfl (cell_one_new _ _ _) (by simp [Value.oneCell']) (by unfold maxLen; omega) (by omega) (by simp; omega) ?_; intro v' w1 hown' hgrow _)
      refine ⟨trivial, ?_⟩
      obtain ⟨gg, cap, rfl, hgg, hggw⟩ := hown'.form (by omega)
      have hnpb : ∀ k, k < wP.heap.size → k ≠ pb → w1.heap[k]? = wP.heap[k]? := fun k hk hne =>
        (hgrow.block k (by simp; omega) (fun e => hne (Option.some.inj e))).trans (Below.heap_alloc _ _ _ hk)
      have z1 : wP.heap.size + 1 ≤ w1.heap.size := by have := hgrow.size; simpa using this
      have a1 : Hid (Arr32 w1 w.heap.size 102 (listE initE)) := Lib.hid ((hnpb _ (by omega) (by omega)).trans aP.out)
      have k1 : Hid (Konst w1) := Lib.hid fun j hj => (World.cell?_of_block (hnpb _ (kP.out.lt) (by show 0 ≠ pb; omega))).trans (kP.out j hj)
      have b1 : Below pb w w1 := bW.trans (((Below.refl pb wP).alloc (by omega) _).grown hgrow (by simp; omega) (fun q e => by cases e; exact Nat.le_refl _))
      have hown2 : w1.ownsRow pb 9 1 (.slice (some ⟨gg, 0, none⟩) (i + 1) cap) (i + 1) (cellsS (parts ++ [padL T.length])) := by rw [cellsS_snoc]; exact hown'
      have s1 := row_strs hown2
      have hcap : i + 1 ≤ cap := by
        rcases hown2.2 with ⟨h, _⟩ | ⟨_, _, _, h, _, _, h3, _⟩
        · cases h
        · cases h; exact h3
      have hgw : gg ≠ w.heap.size := fun e => by
        rcases hown2.2 with ⟨h, _⟩ | ⟨_, _, cur, h, _, h3, _⟩
        · cases h
        · cases h
          rw [e, a1.out] at h3
          have h4 := Option.some.inj h3
          injection h4 with _ h5
          exact absurd h5 (by decide)
      have hLl : (parts ++ [padL T.length]).length = i + 1 := by rw [List.length_append, Hnp.out]; rfl
      have hfl : (parts ++ [padL T.length]).flatten = padF T := by rw [List.flatten_append, HTe.out]; simp [padF_eq]
      clear hown' hgrow hnpb aP kP bW hrowP hown2
      refine (blocks_in _ _ _ _ _).mono ?_
      rintro e w2 ⟨rfl, rfl⟩
      gi_wp2
      obtain ⟨w2, hw2, a2, k2, b2, z2, s2, c2⟩ : ∃ w2, w1.alloc (.cells #[.slice (some ⟨gg, 0, none⟩) (i + 1) cap] 24) = w2 ∧ Hid (Arr32 w2 w.heap.size 102 (listE initE)) ∧ Hid (Konst w2) ∧ Below pb w w2 ∧ w2.heap.size = w1.heap.size + 1 ∧ StrsAt w2 gg 0 (parts ++ [padL T.length]) ∧
          w2.cell? ⟨w1.heap.size, 0, none⟩ = some (.slice (some ⟨gg, 0, none⟩) (i + 1) cap) := by
        refine ⟨_, rfl, Lib.hid ((Below.heap_alloc _ _ _ (by omega)).trans a1.out), Lib.hid (k1.out.keep ((Below.refl _ w1).alloc (Nat.le_refl _) _)), b1.alloc (by omega) _, by simp, s1.keep ((Below.refl _ w1).alloc (Nat.le_refl _) _), ?_⟩
        rw [cell_of_row _ _ _ _ _ _ (heap_alloc_new w1 _)]
        rfl
      rw [hw2]
      have hg2 : w.heap.size < w2.heap.size := by omega
      have hlT : (padF T).length ≤ 1000000000000 := by
        rw [padF_eq, List.length_append, ← padAt_full, padAt_length _ _ (Nat.le_refl _)]
        have : padZ T.length < 64 := Nat.mod_lt _ (by omega)
        omega
      rw [← hLl] at c2
      have hseq := blocks1_in 2 w.heap.size w1.heap.size gg 0 cap (parts ++ [padL T.length]) w2 hg2 hgw c2 s2 (by rw [hLl]; exact hcap) (by rw [hLl]; omega) (by rw [hfl]; exact hlT)
      rw [hfl] at hseq
      clear hw2 a1 k1 b1 s1 hLl hfl c2 s2
      refine wpIn_rangeFunc_mem rfl (by omega) (gf := 100) (lb := #[.pointer (some ⟨w1.heap.size, 0, none⟩)]) rfl trivial (enters_of Tryz.func100 (by kernel_rfl) rfl) (fun _ => rfl) hg2 hseq
        (fun pre W => (Hid (Arr32 W w.heap.size 102 (listE (hashL pre))) ∧ Hid (Konst W)) ∧ Below pb w W ∧ w.heap.size < W.heap.size) ?hI ⟨⟨a2, k2⟩, b2, hg2⟩
        (fun x B => { tmps := #[.slice (some ⟨pb, 0, none⟩) i i, undef, .string ⟨#[]⟩, .pointer (some ⟨w.heap.size, 0, none⟩), .int .i64 T.length, undef, u6, .pointer (some ⟨B, 0, none⟩), undef, undef, .agg init8,
          .slice (some ⟨pb, 0, none⟩) i i, .int .i64 i, .int .i64 i, .bool false, u15, u16, u17, u18, u19, u20, u21, .slice (some ⟨pb, 0, none⟩) i i, .int .i64 T.length, .string ⟨(padL T.length).toArray⟩, .slice (some ⟨wP.heap.size, 0, none⟩) 1 1,
          .slice (some ⟨gg, 0, none⟩) (i + 1) cap, .func (.func 100) #[] #[.pointer (some ⟨w1.heap.size, 0, none⟩)], .agg (cells8 x).toArray,
          undef, undef, undef, undef, undef, undef, undef, undef, undef, undef, undef, undef, undef, undef, undef, undef, undef, undef, undef, undef, undef], defers := [] })
        (fun x => .cells (cells8 x).toArray 106) ?assign ?body ?done
      case hI =>
        rintro s A B row ⟨⟨ha, hk⟩, hb, hz⟩ hgr hr
        have hne : (some w.heap.size : Option Nat) ≠ row := fun e => by have := hr _ e.symm; omega
        refine ⟨⟨Lib.hid ((hgr.block _ hz hne).trans ha.out), Lib.hid fun j hj => (World.cell?_of_block (hgr.block _ hk.out.lt (fun e => by have h1 := hr _ e.symm; have h2 : w2.heap.size ≤ 0 := h1; omega))).trans (hk.out j hj)⟩, hb.grown hgr (by omega) (fun k e => by have := hr k e; omega), Nat.lt_of_lt_of_le hz hgr.size⟩
      case assign =>
        intro l x W K hx hKK
        have hi62 : (Tryz.prog.info? 106).map (·.size) = some (cells8 x).toArray.size := (show (Tryz.prog.info? 106).map (·.size) = some 64 from by kernel_rfl).trans (by simp [cells8_length, hx])
        have hzz : zeros64b.size = (cells8 x).toArray.size := by simp [cells8_length, hx]
        gi_wp2_with (refine wpListIn_store_row rfl 106 _ _ rfl W.heap.size (cells8 x).toArray rfl rfl 106 zeros64b (heap_alloc_new W _) hi62 hzz (cells8_one x) ?_)
        rw [World.setRow_alloc_new]
        exact hKK
      case body =>
        rintro l pre x W B hx ⟨⟨ha, hk⟩, hb, hz⟩ hlen hB hBz
        dsimp only
        have hi62 : (Tryz.prog.info? 106).map (·.size) = some (cells8 x).toArray.size := (show (Tryz.prog.info? 106).map (·.size) = some 64 from by kernel_rfl).trans (by simp [cells8_length, hx])
        have hok := hashL_ok pre
        have Hsn := Lib.hid (hashL_snoc pre x)
        generalize hashL pre = v at *
        have hA := ha.out
        unfold Arr32 at hA
        have hi58' : (Tryz.prog.info? 102).map (·.size) = some (cells32 (listE v)).toArray.size := hi58
        gi_wp2_with (first
          | (refine wpListIn_load_row rfl 102 _ rfl w.heap.size rfl _ _ _ _ hA Tryz.underlying102 rfl hi58' ?_)
          | (refine wpListIn_load_row rfl 106 _ rfl B rfl _ _ _ _ hB Tryz.underlying106 rfl hi62 ?_))
        refine ⟨trivial, ?_⟩
        refine (CallsIn.inRound l (callsIn_wide.2 (compress_calls v x W hk.out hok hx))).mono ?_
        rintro e W3 ⟨rfl, b3⟩
        generalize blockE v x = v' at *
        have hi58s : (Tryz.prog.info? 102).map (·.size) = some (cells32 (listE v')).toArray.size := hi58.trans (congrArg some (cells32E_size v').symm)
        have hold := (cells32E_size v).trans (cells32E_size v').symm
        have hA3 : W3.heap[w.heap.size]? = some (.cells (cells32 (listE v)).toArray 102 (0, 0)) := (b3.block _ hz).trans hA
        gi_wp2_with (refine wpListIn_store_row rfl 102 _ _ rfl w.heap.size (cells32 (listE v')).toArray rfl rfl 102 (cells32 (listE v)).toArray hA3 hi58s hold (cells32_one _) ?_)
        rw [Hsn.out]
        exact sum_keep pb w W W3 (listE v) (listE v') hA3 hk.out hb hz b3 hpb hpbw
      case done =>
        rintro D W hD ⟨⟨ha, hk⟩, hb, hz⟩ hDD
        have hend : shaF T = bytesE (hashL (blks (padF T) ((padF T).length / 64))) := by rw [hashL_blks]; rfl
        have Hend := Lib.hid hend
        generalize hashL (blks (padF T) ((padF T).length / 64)) = v at *
        have hDlt : D < W.heap.size := (Array.getElem?_eq_some_iff.1 hDD).1
        dsimp only
        gi_wp2
        obtain ⟨W4, hW4, d4, a4, b4, e4, z4⟩ : ∃ W4, W.alloc (.cells zeros32b 108) = W4 ∧ Hid (Arr8 W4 W.heap.size 108 (fillB v 0)) ∧ Hid (Arr32 W4 w.heap.size 102 (listE v)) ∧ Below pb w W4 ∧ Hid (W4.heap[D]? = some (.deferred (some []))) ∧ W4.heap.size = W.heap.size + 1 :=
          ⟨_, rfl, Lib.hid (heap_alloc_new W _), Lib.hid ((Below.heap_alloc _ _ _ hz).trans ha.out), hb.alloc (by omega) _, Lib.hid ((Below.heap_alloc _ _ _ hDlt).trans hDD), by simp⟩
        rw [hW4]
        clear hW4 ha hk hb hDD hseq hend
        gi_loopw [32] (fun iv wr => ∃ i : Nat, i ≤ 32 ∧ iv = .int .i64 i ∧ Hid (Arr8 wr W.heap.size 108 (fillB v i)) ∧ Hid (Arr32 wr w.heap.size 102 (listE v)) ∧ Below pb w wr ∧ Hid (wr.heap[D]? = some (.deferred (some []))) ∧ wr.heap.size = W.heap.size + 1)
          (fun iv _ => 32 - (intOf iv).toNat)
        case atStart => exact ⟨0, by omega, rfl, d4, a4, b4, e4, z4⟩
        case round =>
          obtain ⟨i, hi, rfl, dR, aR, bR, eR, zR⟩ := hrel
          by_cases hlt : i < 32
          · have c1 := aR.out.cell (i / 4) (show i / 4 < 8 by omega)
            have c2 := dR.out.cell i (by rcases fillB_length v i with h | h <;> omega)
            have cf : wr.frozen? ⟨W.heap.size, i, none⟩ = false := frozen_of_row _ _ _ _ _ dR.out
            have Hset := Lib.hid (fillB_set v i hlt)
            gi_wp2
            have hv : (((UInt8.ofNat ((listE v).getD (i / 4) 0 >>> (24 - 8 * (i % 4)))).toNat : Nat) : Int) = (((listE v)[i / 4]?.getD 0 : Nat) : Int) / 2 ^ (24 - 8 * (i % 4)) % 256 := by
              rw [UInt8.toNat_ofNat', List.getD_eq_getElem?_getD, Nat.shiftRight_eq_div_pow]
              simp
            have hA := dR.out.set i _ _ hv
            rw [Hset.out] at hA
            have bS : Below W.heap.size wr (wr.setCell ⟨W.heap.size, i, none⟩ (.int .u8 ((((listE v)[i / 4]?.getD 0 : Nat) : Int) / 2 ^ (24 - 8 * (i % 4)) % 256))) := Below.setCell (p := ⟨W.heap.size, i, none⟩) (Below.refl _ wr) (Nat.le_refl _) _
            refine ⟨⟨i + 1, by omega, by go_num, Lib.hid hA, Lib.hid ((bS.block _ hz).trans aR.out), bR.setCell (show pb ≤ W.heap.size by omega) _, Lib.hid ((bS.block _ hDlt).trans eR.out), ?_⟩, by simp [intOf]; omega⟩
            simpa using zR
          · obtain rfl : i = 32 := by omega
            have hl32 : (fillB v 32).length = 32 := by rcases fillB_length v 32 with h | h <;> omega
            have hfull : fillB v 32 = bytesE v := by
              unfold fillB
              rw [List.take_of_length_le (by show 32 ≤ 32; omega)]
              simp
            have hcv := run_convert_bytes_arg (P := Tryz.prog) wr 94 5 Tryz.underlying94 Tryz.underlying5 W.heap.size 0 32 32 ((bytesE v).map fun b => ((b.toNat : Nat) : Int)) (by rw [List.length_map]; rfl) (fun j hj => by
              rw [Nat.zero_add, dR.out.cell j (by rw [hl32]; exact hj), hfull]
              have hj2 : j < (bytesE v).length := hj
              simp [List.getElem?_map, List.getElem?_eq_getElem hj2]) 9 Tryz.underlying9
            rw [str_bytes] at hcv
            have eK := eR.out
            gi_wp2
            refine ⟨by simp, .inl ⟨_, _, rfl, run_takeDeferred eK, ?_⟩⟩
            refine ⟨_, results_tmp rfl _ _ _, by rw [Hend.out]; rfl, ?_⟩
            exact bR.grown ⟨rfl, rfl, rfl, by simp, fun k _ hk => World.putObj_heap_other (fun e => hk (by rw [e]))⟩ (by omega) (fun k e => by cases e; omega)
end Go.Proofs.YtnndnjnpkjpkpaaGreatDoor
namespace Go.Proofs.YtnndnjnpkjpkpaaGreatDoor
open Go.RowKit
theorem mk_eta (t : ByteArray) : (⟨t.data.toList.toArray⟩ : ByteArray) = t := by
  apply ByteArray.ext; simp
theorem sum_calls (parts : List Bs) (w : World) (hK : Konst w) (hp1 : 1 ≤ parts.length) (hp : parts.length ≤ 3) (hT : parts.flatten.length ≤ 100000000000) :
    Calls Tryz.prog 61 #[.slice (some ⟨w.heap.size, 0, none⟩) parts.length parts.length] (w.alloc (.cells (cellsS parts).toArray 9)) fun e W' => e = .returned (.string ⟨(shaF parts.flatten).toArray⟩) ∧ Below w.heap.size w W' := by
  have hrow := World.ownsRow_lit (base := w.heap.size) (e := 9) (size := 1) w (cellsS parts).toArray parts.length (Nat.le_refl _) (by unfold maxLen; omega) (by simp [cellsS_length])
  have b := (Below.refl w.heap.size w).alloc (Nat.le_refl _) (.cells (cellsS parts).toArray 9)
  refine (callsIn_wide.1 (sum_in parts w.heap.size _ (hK.keep b) hK.lt (by simpa using hrow) hp1 hp hT)).mono ?_
  rintro e W' ⟨rfl, b'⟩
  exact ⟨rfl, b.trans b'⟩
theorem sum_one (s : ByteArray) (w : World) (hK : Konst w) (hs : s.size ≤ 10000000000) :
    Calls Tryz.prog 61 #[.slice (some ⟨w.heap.size, 0, none⟩) 1 1] (w.alloc (.cells #[.string s] 9)) fun e W' => e = .returned (.string ⟨(shaF s.data.toList).toArray⟩) ∧ Below w.heap.size w W' := by
  have := sum_calls [s.data.toList] w hK (by simp) (by simp) (by simp; omega)
  simpa [cellsS, mk_eta] using this
theorem Sum_calls (s : ByteArray) (w : World) (hK : Konst w) (hs : s.size ≤ 10000000000) :
    Calls Tryz.prog 43 #[.string s] w fun e W' => e = .returned (.string ⟨(shaF s.data.toList).toArray⟩) ∧ Below w.heap.size w W' := by
  have H := sum_one s w hK hs
  go_enter Tryz.func43, Tryz.ntmps43
  go_wp2_with fail
  refine H.mono ?_
  rintro e w' ⟨rfl, b⟩
  go_wp2_with fail
  go_ret
  exact ⟨rfl, b⟩
end Go.Proofs.YtnndnjnpkjpkpaaGreatDoor
