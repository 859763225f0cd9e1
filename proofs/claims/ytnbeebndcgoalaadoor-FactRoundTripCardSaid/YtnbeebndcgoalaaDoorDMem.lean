/- A law for ranging over a function that writes memory of its own between two rounds: the caller's invariant speaks only of what lay there when the loop began; each round changes one block of the caller's and lays new ones. -/
import Derived.Test.YtnbeebndcgoalaaDoorDComp
import Derived.RangeFuncNested
import Derived.RangeFuncBound
import Derived.RangeFuncCalls
import Derived.RangeFuncLeaves
import Derived.RangeFuncFrom
import Derived.RangeFuncBox
import Derived.Shelf.Abstract
import Derived.Shelf.RegionOpen
import Derived.OwnWalkIn
import Derived.TacticsInMore
import Derived.LoopNIn
import Derived.LoopIn
import Derived.Laws.BytesArg
namespace Go.Proofs.YtnbeebndcgoalaaDoor
open Go.RowKit Go.Shelf
/-- Cells stay as they are, but for one block. -/
def KeepC (g : Nat) (W W' : World) : Prop := W.heap.size ≤ W'.heap.size ∧ ∀ (k : Nat) (o : Obj), k ≠ g → W.heap[k]? = some o → o.isCells = true → W'.heap[k]? = some o
theorem KeepC.trans {g : Nat} {A B C : World} (h : KeepC g A B) (k : KeepC g B C) : KeepC g A C :=
  ⟨Nat.le_trans h.1 k.1, fun i o hi ha ho => k.2 i o hi (h.2 i o hi ha ho) ho⟩
theorem KeepC.put (g : Nat) (W : World) (l : Nat) (o o' : Obj) (h : W.heap[l]? = some o) (ho : o.isCells = false) : KeepC g W (W.putObj l o') := by
  refine ⟨by simp, fun k u _ hk hu => ?_⟩
  have hne : k ≠ l := fun e => by subst e; rw [h] at hk; cases hk; rw [ho] at hu; cases hu
  rw [World.putObj_heap_other hne]; exact hk
theorem KeepC.grown {g : Nat} {W W' : World} (h : W.grownBy W' (some g)) : KeepC g W W' :=
  ⟨h.size, fun k _ hk ho _ => (h.block k (Array.getElem?_eq_some_iff.1 ho).1 (fun e => hk (Option.some.inj e))).trans ho⟩
/-- What an invariant abides: whatever is changed from B on. -/
def AbidesB {β : Type} (B : Nat) (J : β → World → Prop) : Prop := ∀ s W W' row, J s W → W.grownBy W' row → (∀ r, row = some r → B ≤ r) → J s W'
/-- The contract of an iterator that lays and writes blocks of its own. -/
def GivesMem {α : Type} (F : Fence) (n : Nat) (P : Program) (gf : Nat) (lb : Array Value) (encs : α → Array Value) (ok : α → Prop) (g N : Nat) (all : List α) (w : World) : Prop :=
  ∀ (l : Nat) (J : List α → World → Prop) (W : World), w.grownBy W none → w.heap.size ≤ W.heap.size → AbidesB W.heap.size J →
    (∀ pre x W1, ok x → J pre W1 → pre.length < N → YieldAt F (n - 1) P l (encs x) W1 fun e W' => e = .returned (.bool true) ∧ J (pre ++ [x]) W' ∧ KeepC g W1 W') →
    J [] W → CallsIn F n P gf (#[.func (.yield l) #[] #[]] ++ lb) W fun e W' => (∃ v, e = .returned v) ∧ J all W'

set_option maxHeartbeats 1000000 in
theorem wpIn_rangeFunc_mem {F : Fence} {n : Nat} {P : Program} {α : Type} {gop : Operand} {ps : Array Tmp} {assign body : Code} {Q : Exit → Act → World → Prop} {a : Act} {w : World}
    (hro : F.round = none) (h1 : 1 ≤ n) {gf : Nat} {lb : Array Value} (hg : a.eval gop = .func (.func gf) #[] lb) (hFg : F.fn gf) (eg : ∀ args w, (callFunc gf args).run P w = .ok (.enter gf args) w)
    {encs : α → Array Value} (hps : ∀ x, (encs x).size = ps.size) {ok : α → Prop} {g N : Nat} {all : List α} (hgw : g < w.heap.size) (hseq : GivesMem F (n - 1) P gf lb encs ok g N all w)
    (I : List α → World → Prop) (hI : AbidesB w.heap.size I) (h0 : I [] w) (a₁ : α → Nat → Act) (o₁ : α → Obj)
    (hassign : ∀ (l : Nat) (x : α) (W : World) (K : Act → World → Prop), ok x → K (a₁ x W.heap.size) (W.alloc (o₁ x)) →
      assign.wpIn (F.inRound l) (n - 1 - 1) P (Exit.then K (fun _ _ _ => False)) { tmps := (ps.zip (encs x)).foldl (fun t (p, v) => t.setIfInBounds p v) a.tmps, defers := [] } W)
    (hbody : ∀ (l : Nat) (pre : List α) (x : α) (W : World) (B : Nat), ok x → I pre W → pre.length < N → W.heap[B]? = some (o₁ x) → w.heap.size + 2 ≤ B →
      body.wpIn (F.inRound l) (n - 1 - 1) P (fun e _ W' => e = .normal ∧ W.grownBy W' (some g) ∧ I (pre ++ [x]) W') (a₁ x B) W)
    (hdone : ∀ (D : Nat) (W : World), w.heap.size ≤ D → I all W → W.heap[D]? = some (.deferred (some [])) → Q .normal { a with defers := { target := .collected D, args := #[] } :: a.defers } W) :
    (Code.rangeFunc gop ps assign body).wpIn F n P Q a w := by
  refine wpIn_rangeFunc fun fn hfn => ?_
  rw [hro]
  obtain ⟨rc, hrc⟩ : ∃ rc : LoopState → Loop, rc = fun st => { state := st, pending := none, fn, tmps := a.tmps, params := ps, assign, body, defers := w.heap.size } := ⟨_, rfl⟩
  have hpar : ∀ st, (rc st).params = ps := fun st => by rw [hrc]
  have hst : ∀ st, (rc st).state = st := fun st => by rw [hrc]
  have hset : ∀ st st', { rc st with state := st' } = rc st' := fun st st' => by rw [hrc]
  have hend : ∀ st st', { rc st with state := st', pending := none } = rc st' := fun st st' => by rw [hrc]
  obtain ⟨W1, hW1⟩ : ∃ W1, (w.alloc (.deferred (some []))).alloc (.loop (rc .ready)) = W1 := ⟨_, rfl⟩
  have z1 : W1.heap.size = w.heap.size + 2 := by rw [← hW1]; simp
  have hD1 : W1.heap[w.heap.size]? = some (.deferred (some [])) := by
    rw [← hW1, Below.heap_alloc _ _ _ (by simp)]; exact heap_alloc_new w _
  have hL1 : W1.heap[w.heap.size + 1]? = some (.loop (rc .ready)) := by
    rw [← hW1]
    have := heap_alloc_new (w.alloc (.deferred (some []))) (.loop (rc .ready))
    simpa using this
  have hg1 : w.grownBy W1 none := by
    rw [← hW1]
    exact ⟨rfl, rfl, rfl, by simp; omega, fun k hk _ => by rw [Below.heap_alloc _ _ _ (by simp; omega), Below.heap_alloc _ _ _ hk]⟩
  refine ⟨w.heap.size + 1, [{ target := .collected w.heap.size, args := #[] }], W1, { target := .fn (.func gf) lb, args := #[.func (.yield (w.heap.size + 1)) #[] #[]] }, W1, gf,
    #[.func (.yield (w.heap.size + 1)) #[] #[]] ++ lb, W1, ?_, ?_, ?_, ?_, fun _ => h1, ?_⟩
  · rw [← hW1, hrc]; exact run_enterLoop_outer _ _ _ _ _
  · simp only [resolve, hg]
    simp [go_sem]
  · intro f' hf'
    simp [Target.leads] at hf'
    subst hf'
    exact hFg
  · simp [invoke, go_sem, eg]
  refine (hseq (w.heap.size + 1) (fun pre W => (I pre W ∧ w.heap.size + 2 ≤ W.heap.size) ∧ W.heap[w.heap.size + 1]? = some (.loop (rc .ready)) ∧ W.heap[w.heap.size]? = some (.deferred (some []))) W1 hg1 hg1.size
    ?abides ?round ⟨⟨hI _ _ _ none h0 hg1 (fun r e => by cases e), by omega⟩, hL1, hD1⟩).mono ?behind
  case abides =>
    rintro s A B row ⟨⟨hi, hz⟩, hl, hd⟩ hgr hr
    rw [z1] at hr
    have h1 : (some (w.heap.size + 1) : Option Nat) ≠ row := fun e => by have := hr _ e.symm; omega
    have h2 : (some w.heap.size : Option Nat) ≠ row := fun e => by have := hr _ e.symm; omega
    exact ⟨⟨hI s A B row hi hgr (fun r e => by have := hr r e; omega), Nat.le_trans hz hgr.size⟩, (hgr.block _ (by omega) h1).trans hl, (hgr.block _ (by omega) h2).trans hd⟩
  case round =>
    rintro pre x W hok ⟨⟨hi, hz⟩, hl, hd⟩ hlen
    have hy := run_yield (P := P) (args := encs x) hl (by rw [hpar]; exact hps x)
    refine ⟨fn, _, assign, body, by rw [hrc] at hy; exact hy, roundIn_of_wpIn hfn (hassign _ x W _ hok ?_)⟩
    have hlA : (W.alloc (o₁ x)).heap[w.heap.size + 1]? = some (.loop (rc .ready)) := (Below.heap_alloc _ _ _ (by omega)).trans hl
    have hbg := run_beginRound (P := P) hlA (hst _)
    rw [hset] at hbg
    refine ⟨_, hbg, ?_⟩
    obtain ⟨W2, hW2⟩ : ∃ W2, (W.alloc (o₁ x)).putObj (w.heap.size + 1) (.loop (rc .busy)) = W2 := ⟨_, rfl⟩
    rw [hW2]
    have zA : (W.alloc (o₁ x)).heap.size = W.heap.size + 1 := by simp
    have z2 : W2.heap.size = W.heap.size + 1 := by rw [← hW2]; simp
    have gA : W.grownBy (W.alloc (o₁ x)) none := World.grownBy_alloc W _ none
    have g2 : (W.alloc (o₁ x)).grownBy W2 (some (w.heap.size + 1)) := by rw [← hW2]; exact grownBy_putObj' _ _ _
    have hl2 : W2.heap[w.heap.size + 1]? = some (.loop (rc .busy)) := by rw [← hW2]; exact World.putObj_heap_same (by rw [zA]; omega)
    have hd2 : W2.heap[w.heap.size]? = some (.deferred (some [])) := by
      rw [← hW2, World.putObj_heap_other (by omega), Below.heap_alloc _ _ _ (by omega)]; exact hd
    have hB2 : W2.heap[W.heap.size]? = some (o₁ x) := by
      rw [← hW2, World.putObj_heap_other (by omega)]; exact heap_alloc_new W _
    have i2 : I pre W2 := hI _ _ _ _ (hI _ _ _ none hi gA (fun r e => by cases e)) g2 (fun r e => by cases e; omega)
    have k2 : KeepC g W W2 := (KeepC.grown (g := g) ⟨gA.os, gA.tape, gA.output, gA.size, fun k hk _ => gA.block k hk (by simp)⟩).trans (by rw [← hW2]; exact KeepC.put g _ _ _ _ hlA rfl)
    refine wpIn_mono (hbody _ pre x W2 W.heap.size hok i2 hlen hB2 hz) ?_
    rintro e a3 W3 ⟨rfl, g3, i3⟩
    have hl3 : W3.heap[w.heap.size + 1]? = some (.loop (rc .busy)) := (g3.block _ (by omega) (fun e => by have := Option.some.inj e; omega)).trans hl2
    have hd3 : W3.heap[w.heap.size]? = some (.deferred (some [])) := (g3.block _ (by omega) (fun e => by have := Option.some.inj e; omega)).trans hd2
    have he := run_endRound (P := P) none hl3
    refine ⟨_, _, he, rfl, ⟨⟨hI _ _ _ _ i3 (grownBy_putObj' _ _ _) (fun r e => by cases e; omega), ?_⟩, ?_, ?_⟩, ?_⟩
    · rw [World.putObj_size]; have := g3.size; omega
    · have hh : (W3.putObj (w.heap.size + 1) (.loop { rc .busy with state := if (none : Option Code).isNone then .ready else .done, pending := none })).heap[w.heap.size + 1]? = some (.loop { rc .busy with state := if (none : Option Code).isNone then .ready else .done, pending := none }) :=
        World.putObj_heap_same (by have := g3.size; omega)
      rw [hh]
      congr 2
      exact hend _ _
    · rw [World.putObj_heap_other (by omega)]; exact hd3
    · exact (k2.trans (KeepC.grown g3)).trans (KeepC.put g _ _ _ _ hl3 rfl)
  case behind =>
    rintro e W2 ⟨⟨v, rfl⟩, ⟨hi, hz⟩, hl, hd⟩
    have he := run_endLoop (P := P) hl (by rw [hst]; simp)
    refine ⟨none, _, by rw [he, hrc], ?_⟩
    exact hdone _ _ (Nat.le_refl _) (hI _ _ _ _ hi (grownBy_putObj' _ _ _) (fun r e => by cases e; omega)) (by rw [World.putObj_heap_other (by omega)]; exact hd)
end Go.Proofs.YtnbeebndcgoalaaDoor
