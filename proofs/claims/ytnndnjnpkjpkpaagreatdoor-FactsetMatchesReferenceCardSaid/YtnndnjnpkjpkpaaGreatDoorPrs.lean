/- The contract of package factset's pairs: an iterator that yields the IDs and the elements of a set, ascending, to whatever body that keeps what it does not own. -/
import Derived.Test.YtnndnjnpkjpkpaaGreatDoorItr
import Derived.Test.YtnndnjnpkjpkpaaGreatDoorSa
import Derived.Shelf.Abstract
import Derived.Shelf.RegionOpen
import Derived.RangeFuncNested
import Derived.RangeFuncBound
import Derived.RangeFuncCalls
import Derived.RangeFuncLeaves
import Derived.RangeFuncBox
import Derived.WalkKit
import Derived.OwnWalkIn
import Derived.TacticsInMore
import Derived.LoopNIn
import Derived.LoopIn
namespace Go.Proofs.YtnndnjnpkjpkpaaGreatDoor
open Go.RowKit Go.Maps Go.Sort Go.Shelf
attribute [local go_sem] Oper.semAt_some

/-- A valid fact. -/
abbrev OkF := {f : Fa // okA f = true}
def entF (x : OkF) : Ent := (keyF x.1, valF x.1)
theorem facts_list {es : List Ent} (h : Facts es) : ∃ fs : List OkF, es = fs.map entF := by
  induction es with
  | nil => exact ⟨[], rfl⟩
  | cons p r ih =>
    obtain ⟨fs, e⟩ := ih (fun q hq => h q (List.mem_cons_of_mem _ hq))
    obtain ⟨f, ho, e2⟩ := h p (List.mem_cons_self ..)
    exact ⟨⟨f, ho⟩ :: fs, by rw [e, e2]; rfl⟩
/-- What a body keeps that owns two blocks: whatever lay ahead, and all cells, but for these two. -/
def KeepX (n₀ g B : Nat) (W W' : World) : Prop := W.heap.size ≤ W'.heap.size ∧ ∀ (k : Nat) (o : Obj), k ≠ g → k ≠ B → W.heap[k]? = some o → (k < n₀ ∨ o.isCells = true) → W'.heap[k]? = some o
theorem KeepX.refl (n₀ g B : Nat) (W : World) : KeepX n₀ g B W W := ⟨Nat.le_refl _, fun _ _ _ _ h _ => h⟩
theorem KeepX.trans {n₀ g B : Nat} {X Y Z : World} (h : KeepX n₀ g B X Y) (k : KeepX n₀ g B Y Z) : KeepX n₀ g B X Z :=
  ⟨Nat.le_trans h.1 k.1, fun i o h1 h2 h3 h4 => k.2 i o h1 h2 (h.2 i o h1 h2 h3 h4) h4⟩
theorem KeepX.put {n₀ g B : Nat} (W : World) (l : Nat) (o o' : Obj) (hl : n₀ ≤ l) (h : W.heap[l]? = some o) (ho : o.isCells = false) : KeepX n₀ g B W (W.putObj l o') := by
  refine ⟨by simp, fun k u _ _ hk hu => ?_⟩
  have hne : k ≠ l := fun e => by
    subst e
    rw [h] at hk; cases hk
    rcases hu with hu | hu
    · omega
    · rw [ho] at hu; cases hu
  rw [World.putObj_heap_other hne]; exact hk
theorem KeepX.cell {n₀ g B : Nat} {W W' : World} (h : KeepX n₀ g B W W') {a : Addr} {v : Value} (h1 : a.block ≠ g) (h2 : a.block ≠ B) (hc : W.cell? a = some v) : W'.cell? a = some v := by
  unfold World.cell? at hc ⊢
  cases hb : W.heap[a.block]? with
  | none => rw [hb] at hc; cases hc
  | some o =>
    cases o <;> rw [hb] at hc <;> first
      | (rw [h.2 a.block _ h1 h2 hb (.inr rfl)]; exact hc)
      | cases hc
theorem SetAt.keepX {n₀ g B : Nat} {W W' : World} {p b : Nat} {es : List Ent} (hS : SetAt W p b es) (h : KeepX n₀ g B W W') (hp : p < n₀) (hb : b < n₀) (p1 : p ≠ g) (p2 : p ≠ B) (b1 : b ≠ g) (b2 : b ≠ B) : SetAt W' p b es := by
  obtain ⟨h1, es', clock, hm, F, hs, hD⟩ := hS
  exact ⟨h.2 p _ p1 p2 h1 (.inl hp), es', clock, h.2 b _ b1 b2 hm (.inl hb), F, hs, hD⟩

theorem wide_at {n : Nat} {P : Program} {f : FuncId} {args : Array Value} {w : World} {R : Ending → World → Prop} (m : Nat) (h : CallsIn Fence.wide n P f args w R) : CallsIn Fence.wide m P f args w R := callsIn_wide.2 (callsIn_wide.1 h)

set_option maxRecDepth 100000 in
theorem pairs_calls (q : Option Addr) (w : World) : Calls Tryz.prog 36 #[.pointer q] w fun e W' => e = .returned (.func (.func 52) #[] #[.pointer (some ⟨w.heap.size, 0, none⟩)]) ∧ W' = w.alloc (.cells #[.pointer q] 27) := by
  go_enter Tryz.func36, Tryz.ntmps36
  go_wp2_with fail
  go_ret
  exact ⟨rfl, rfl⟩

set_option maxRecDepth 100000 in
set_option maxHeartbeats 2000000 in
theorem pairs1_in (n l Bs p b n₀ g B : Nat) (h1 : 1 ≤ n) (fs : List OkF) (J Jx : List OkF → World → Prop) (W : World) (hJ : AbidesFrom W.heap.size J)
    (hY : ∀ pre x W1, J pre W1 → pre.length < fs.length → YieldAt Fence.wide (n - 1) Tryz.prog l #[.string ⟨(keyF x.1).toArray⟩, valF x.1] W1 fun e W' =>
      (e = .returned (.bool true) ∧ J (pre ++ [x]) W' ∧ KeepX n₀ g B W1 W') ∨ (e = .returned (.bool false) ∧ Jx (pre ++ [x]) W'))
    (hBs : W.cell? ⟨Bs, 0, none⟩ = some (.pointer (some ⟨p, 0, none⟩))) (hS : SetAt W p b (fs.map entF)) (ha : Asc (fs.map entF)) (hl : fs.length ≤ 4000)
    (hBl : Bs < n₀) (hp : p < n₀) (hb : b < n₀) (hg : g < n₀) (hB : B < n₀) (hn : n₀ ≤ W.heap.size) (s1 : Bs ≠ g) (s2 : Bs ≠ B) (p1 : p ≠ g) (p2 : p ≠ B) (b1 : b ≠ g) (b2 : b ≠ B) (h0 : J [] W) :
    CallsIn Fence.wide n Tryz.prog 52 #[.func (.yield l) #[] #[], .pointer (some ⟨Bs, 0, none⟩)] W fun e W' => (∃ v, e = .returned v) ∧
      ((∃ ys, ys = fs ∧ J ys W') ∨ (∃ pre, pre <+: fs ∧ Jx pre W')) := by
  have hc := hS.cell
  have hK := fun (k : Option Nat) (m : Nat) => wide_at m (keysF_calls k W)
  have hT := fun (m : Nat) => wide_at m (sortedF_calls b _ (fs.map entF) W hS.2 ha (by rw [List.length_map]; omega))
  have hfK : Fence.wide.fn 53 := trivial
  have hfS : Fence.wide.fn 39 := trivial
  refine callsIn_of_wp Tryz.func52 rfl trivial ?_ rfl
  simp only [Tryz.ntmps52, List.size_toArray, List.length_cons, List.length_nil, Nat.reduceAdd, Nat.reduceSub, Array.replicate_succ, Array.replicate_zero, List.push_toArray, List.append_toArray, List.nil_append, List.cons_append]
  gi_wp2_with (first
    | (gi_at_call 53; refine (hK _ _).mono ?_; rintro e w' ⟨rfl, rfl⟩)
    | (gi_at_call 39; refine (hT _).mono ?_; rintro e W1 ⟨v, rfl, hrow, hnil, hb1⟩
       obtain ⟨A, cap, rfl, hcap, hA⟩ := RowS.slice hrow))
  have J1 : J [] W1 := hJ [] W W1 none h0 (grown_of_below hb1) (fun r e => by cases e)
  have lenL : (fs.map entF).length = fs.length := List.length_map ..
  have S1 : SetAt W1 p b (fs.map entF) := hS.below hb1
  have cB1 : W1.cell? ⟨Bs, 0, none⟩ = some (.pointer (some ⟨p, 0, none⟩)) := (hb1.cell (p := ⟨Bs, 0, none⟩) (by show Bs < W.heap.size; omega)).trans hBs
  have lenK : (((fs.map entF).map (·.1)).length : Nat) = fs.length := by rw [List.length_map, lenL]
  rw [lenK] at hcap
  have hfar : ∀ q o, A = some ⟨q, o, none⟩ → n₀ ≤ q := fun q o e => by
    subst e
    rcases hrow.2 with ⟨h, _⟩ | ⟨g', cap', cur, hv, hbg, _⟩
    · cases h
    · cases hv; omega
  have HA := Lib.hid hA
  have HS := Lib.hid hS.2
  clear hrow hnil hA hc hK hT hBs hS
  gi_loopw [14] (fun i wr => ∃ k : Nat, k ≤ fs.length ∧ i = .int .i64 k ∧ J (fs.take k) wr ∧ KeepX n₀ g B W1 wr) (fun i _ => fs.length - (intOf i).toNat)
  case atStart => exact ⟨0, by omega, rfl, J1, KeepX.refl _ _ _ _⟩
  case round =>
    obtain ⟨k, hk, rfl, hJs, hkx⟩ := hrel
    by_cases hlt : k < fs.length
    · rcases HA.out with hz | ⟨q, o, rfl, hst⟩
      · have := congrArg List.length hz
        rw [lenK] at this
        simp only [List.length_nil] at this
        omega
      · have hq := hfar q o rfl
        have cK : wr.cell? ⟨q, o + k, none⟩ = some (.string ⟨(keyF fs[k].1).toArray⟩) := by
          have := hst k (by rw [lenK]; exact hlt)
          rw [List.map_map, List.getD_eq_getElem?_getD, List.getElem?_map, List.getElem?_eq_getElem hlt] at this
          exact hkx.cell (by show q ≠ g; omega) (by show q ≠ B; omega) this
        have c1 := hkx.cell (a := ⟨Bs, 0, none⟩) s1 s2 cB1
        have hS' := S1.keepX hkx hp hb p1 p2 b1 b2
        have c2 := hS'.cell
        have hget : lookE (fs.map entF) (keyF fs[k].1) = valF fs[k].1 := by
          unfold lookE
          rw [mem_getE ha (x := valF fs[k].1) (List.mem_map.2 ⟨fs[k], List.getElem_mem hlt, rfl⟩)]
          rfl
        have hlk := hS'.look ⟨(keyF fs[k].1).toArray⟩ (by show (keyF fs[k].1).length ≤ maxLen; rw [keyF_length]; decide)
        rw [key_bytes, hget] at hlk
        obtain ⟨fn, tmps, assign, body, hy, hR⟩ := hY (fs.take k) fs[k] wr hJs (by rw [List.length_take]; omega)
        have htk : fs.take k ++ [fs[k]] = fs.take (k + 1) := (List.take_succ_eq_append_getElem hlt).symm
        rw [htk] at hR

        have k1 : (k : Int) < (fs.length : Int) := by omega
        have k0 : 0 ≤ (k : Int) := by omega
        clear hget htk hJs hS'
        gi_wp2
        refine hR.mono ?_
        rintro e W3 (⟨rfl, hJ3, hk3⟩ | ⟨rfl, hJx3⟩)
        · gi_wp2
          go_roundw
          case rel => exact ⟨k + 1, by omega, by go_num, hJ3, hkx.trans hk3⟩
          case measure => simp [intOf]; omega
        · gi_wp2
          refine bodyPost_ret (results_none rfl _ _ _) rfl ?_
          exact ⟨⟨_, rfl⟩, .inr ⟨_, List.take_prefix _ _, hJx3⟩⟩
    · obtain rfl : k = fs.length := by omega
      gi_wp2
      go_end0
      exact ⟨⟨_, rfl⟩, .inl ⟨_, rfl, by simpa using hJs⟩⟩
set_option maxRecDepth 100000 in
set_option maxHeartbeats 2000000 in
theorem pairs1_nil (n l Bs : Nat) (J : List OkF → World → Prop) (W : World) (hBs : W.cell? ⟨Bs, 0, none⟩ = some (.pointer none)) (h0 : J [] W) :
    CallsIn Fence.wide n Tryz.prog 52 #[.func (.yield l) #[] #[], .pointer (some ⟨Bs, 0, none⟩)] W fun e W' => (∃ v, e = .returned v) ∧ J [] W' := by
  refine callsIn_of_wp Tryz.func52 rfl trivial ?_ rfl
  simp only [Tryz.ntmps52, List.size_toArray, List.length_cons, List.length_nil, Nat.reduceAdd, Nat.reduceSub, Array.replicate_succ, Array.replicate_zero, List.push_toArray, List.append_toArray, List.nil_append, List.cons_append]
  gi_wp2
  refine bodyPost_ret (results_none rfl _ _ _) rfl ?_
  exact ⟨⟨_, rfl⟩, h0⟩
abbrev encP (x : OkF) : Array Value := #[.string ⟨(keyF x.1).toArray⟩, valF x.1]
/-- The set that a pointer points to, nil included. -/
def PtrAt (w : World) (q : Option Addr) (fs : List OkF) (n₀ g B : Nat) : Prop :=
  (q = none ∧ fs = []) ∨ ∃ p b, q = some ⟨p, 0, none⟩ ∧ SetAt w p b (fs.map entF) ∧ Asc (fs.map entF) ∧ fs.length ≤ 4000 ∧ p < n₀ ∧ b < n₀ ∧ p ≠ g ∧ p ≠ B ∧ b ≠ g ∧ b ≠ B
theorem pairs_stops (n Bs n₀ g B : Nat) (h1 : 1 ≤ n) (q : Option Addr) (fs : List OkF) (w : World) (hBs : w.cell? ⟨Bs, 0, none⟩ = some (.pointer q)) (hS : PtrAt w q fs n₀ g B)
    (hBl : Bs < n₀) (hg : g < n₀) (hB : B < n₀) (hn : n₀ ≤ w.heap.size) (s1 : Bs ≠ g) (s2 : Bs ≠ B) :
    SeqStopsK Fence.wide n Tryz.prog 52 #[.pointer (some ⟨Bs, 0, none⟩)] encP (KeepX n₀ g B) (fun ys => ys = fs) (fun pre => pre <+: fs) fs.length w := fun l J Jx W hW hJ _ hY h0 => by
  have hBs' := (hW.cell (p := ⟨Bs, 0, none⟩) (by show Bs < w.heap.size; omega)).trans hBs
  have hsz := hW.size
  rcases hS with ⟨rfl, rfl⟩ | ⟨p, b, rfl, hS, ha, hl, hp, hb, p1, p2, b1, b2⟩
  · exact (pairs1_nil n l Bs J W hBs' h0).mono fun e W' ⟨he, hj⟩ => ⟨he, .inl ⟨_, rfl, hj⟩⟩
  · exact pairs1_in n l Bs p b n₀ g B h1 fs J Jx W hJ hY hBs' (hS.below hW) ha hl hBl hp hb hg hB (by omega) s1 s2 p1 p2 b1 b2 h0
end Go.Proofs.YtnndnjnpkjpkpaaGreatDoor
