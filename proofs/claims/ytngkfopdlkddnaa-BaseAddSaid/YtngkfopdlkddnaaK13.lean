/- Keys of base's map: three numbers in an array; what they read as. | Contracts of package fact's about, Key and Same, of the reference implementation's Key, and of the laws' rate, pick and cut. | The contract of package fact's Key. -/
import Derived.Test.YtngkfopdlkddnaaK12
import Derived.DeepKeys4
import Derived.Maps.Keyed
import Derived.Test.YtngkfopdlkddnaaK04
namespace Go.Proofs.Ytngkfopdlkddnaa
open Go Go.RowKit Go.Maps
abbrev K3 := Int × Int × Int
def keyC (k : K3) : Value := .agg #[.int .i64 k.1, .int .i64 k.2.1, .int .i64 k.2.2]
theorem laidOutP : laidOutB Try.prog = true := by kernel_rfl
theorem rowK : (41 : TypeId) < Try.prog.types.size := of_decide_eq_true (by kernel_rfl)
theorem wideK : (match Try.prog.underlying 41 with | some (.array _ _) | some (.struct _) => true | _ => false) = true := by rw [Try.underlying41]
set_option maxRecDepth 100000 in
theorem law3 : Keyed Try.prog 41 := Keyed.of_law (deep_law_laid laidOutP (m := 2) (by omega) rowK (by kernel_rfl) wideK)
def InK (k : K3) : Prop := (-9223372036854775808 ≤ k.1 ∧ k.1 ≤ 9223372036854775807) ∧ (-9223372036854775808 ≤ k.2.1 ∧ k.2.1 ≤ 9223372036854775807) ∧ (-9223372036854775808 ≤ k.2.2 ∧ k.2.2 ≤ 9223372036854775807)
def kb (k : K3) : List UInt8 := keyBytes [.int .i64 k.1, .int .i64 k.2.1, .int .i64 k.2.2]
theorem keyType3 : Try.prog.keyType 41 = true := by kernel_rfl
theorem cells3 : Try.prog.cellsOf 41 = 3 := by kernel_rfl
theorem cells1 : Try.prog.cellsOf 3 = 1 := by kernel_rfl
theorem key_of (k : K3) (h : InK k) : keyOf Try.prog 41 (keyC k) = some (.string (kb k)) := by
  obtain ⟨a, b, c⟩ := k
  obtain ⟨⟨a1, a2⟩, ⟨b1, b2⟩, ⟨c1, c2⟩⟩ := h
  have wf : ∀ n : Int, -9223372036854775808 ≤ n → n ≤ 9223372036854775807 → (Lit.int .i64 n).wf = true := fun n h1 h2 => WalkArith.wf_i64 (by omega)
  have hf : (keyC (a, b, c)).formed Try.prog 41 = true := by
    simp [keyC, Value.formed, Try.underlying41, cells3]
  have one : ∀ (d : Nat) (n : Int), -9223372036854775808 ≤ n → n ≤ 9223372036854775807 → Try.prog.keyLits (d + 1) 3 [.int .i64 n] = some [.int .i64 n] := fun d n h1 h2 => by
    unfold Program.keyLits
    simp [Try.underlying3, wf n h1 h2]
  have hk : ∀ d : Nat, Try.prog.keyLits (d + 1 + 1) 41 [.int .i64 a, .int .i64 b, .int .i64 c] = some [.int .i64 a, .int .i64 b, .int .i64 c] := fun d => by
    unfold Program.keyLits
    simp [Try.underlying41, cells3, cells1, List.range_succ, one d a a1 a2, one d b b1 b2, one d c c1 c2]
  have hsz : ∃ d, Try.prog.types.size = d + 1 := ⟨Try.prog.types.size - 1, by have h0 : 0 < Try.prog.types.size := Nat.lt_of_le_of_lt (Nat.zero_le _) rowK; omega⟩
  obtain ⟨d, hd⟩ := hsz
  unfold keyOf
  rw [Try.underlying41]
  simp only [keyType3, hf, Bool.and_self, if_true, hd]
  show ((Try.prog.keyLits (d + 1 + 1) _ [.int .i64 a, .int .i64 b, .int .i64 c]).map _) = _
  rw [hk d]
  rfl
theorem kb_inj {j k : K3} (hj : InK j) (hk : InK k) (h : kb j = kb k) : j = k := by
  have e := law3.inj (key_of j hj) (by rw [h]; exact key_of k hk)
  obtain ⟨a, b, c⟩ := j
  obtain ⟨x, y, z⟩ := k
  simp only [keyC, Value.agg.injEq, Array.mk.injEq, List.cons.injEq, Value.int.injEq, true_and, and_true] at e
  obtain ⟨h1, h2, h3⟩ := e
  subst h1; subst h2; subst h3; rfl
end Go.Proofs.Ytngkfopdlkddnaa
namespace Go.Proofs.Ytngkfopdlkddnaa
open Go.RowKit

set_option maxRecDepth 100000 in
theorem ofDevice_calls (v : Nat → Int) (t : ByteArray) (w : World) : Calls Try.prog 52 #[.agg (factC v t)] w fun e W' => e = .returned (.tuple #[.int .i64 (v 6), .int .i64 (v 1)]) ∧ Below w.heap.size w W' := by
  go_enter Try.func52, Try.ntmps52
  go_wp2_with fail
  go_quiet (fail)
  go_wp2_with fail
  go_ret2
  exact ⟨rfl, below_drewN ((Below.refl _ _).alloc (Nat.le_refl _) _) nq⟩

set_option maxRecDepth 100000 in
theorem ofID_calls (v : Nat → Int) (t : ByteArray) (w : World) : Calls Try.prog 53 #[.agg (factC v t)] w fun e W' => e = .returned (.tuple #[.int .i64 (v 1), .int .i64 0]) ∧ Below w.heap.size w W' := by
  go_enter Try.func53, Try.ntmps53
  go_wp2_with fail
  go_ret2
  exact ⟨rfl, (Below.refl _ _).alloc (Nat.le_refl _) _⟩

set_option maxRecDepth 100000 in
theorem ofHolder_calls (v : Nat → Int) (t : ByteArray) (w : World) : Calls Try.prog 54 #[.agg (factC v t)] w fun e W' => e = .returned (.tuple #[.int .i64 (v 9), .int .i64 (v 11)]) ∧ Below w.heap.size w W' := by
  go_enter Try.func54, Try.ntmps54
  go_wp2_with fail
  go_quiet (fail)
  go_wp2_with fail
  go_ret2
  exact ⟨rfl, below_drewN ((Below.refl _ _).alloc (Nat.le_refl _) _) nq⟩

set_option maxRecDepth 100000 in
theorem ofAccount_calls (v : Nat → Int) (t : ByteArray) (w : World) : Calls Try.prog 55 #[.agg (factC v t)] w fun e W' => e = .returned (.tuple #[.int .i64 (v 5), .int .i64 (v 3)]) ∧ Below w.heap.size w W' := by
  go_enter Try.func55, Try.ntmps55
  go_wp2_with fail
  go_quiet (fail)
  go_wp2_with fail
  go_ret2
  exact ⟨rfl, below_drewN ((Below.refl _ _).alloc (Nat.le_refl _) _) nq⟩

set_option maxRecDepth 100000 in
theorem ofCurrency_calls (v : Nat → Int) (t : ByteArray) (w : World) : Calls Try.prog 56 #[.agg (factC v t)] w fun e W' => e = .returned (.tuple #[.int .i64 (v 15), .int .i64 (v 3)]) ∧ Below w.heap.size w W' := by
  go_enter Try.func56, Try.ntmps56
  go_wp2_with fail
  go_quiet (fail)
  go_wp2_with fail
  go_ret2
  exact ⟨rfl, below_drewN ((Below.refl _ _).alloc (Nat.le_refl _) _) nq⟩

set_option maxRecDepth 100000 in
theorem ofFrom_calls (v : Nat → Int) (t : ByteArray) (w : World) : Calls Try.prog 57 #[.agg (factC v t)] w fun e W' => e = .returned (.tuple #[.int .i64 (v 11), .int .i64 0]) ∧ Below w.heap.size w W' := by
  go_enter Try.func57, Try.ntmps57
  go_wp2_with fail
  go_ret2
  exact ⟨rfl, (Below.refl _ _).alloc (Nat.le_refl _) _⟩

set_option maxRecDepth 100000 in
theorem ofTerritory_calls (v : Nat → Int) (t : ByteArray) (w : World) : Calls Try.prog 58 #[.agg (factC v t)] w fun e W' => e = .returned (.tuple #[.int .i64 (v 8), .int .i64 (v 11)]) ∧ Below w.heap.size w W' := by
  go_enter Try.func58, Try.ntmps58
  go_wp2_with fail
  go_quiet (fail)
  go_wp2_with fail
  go_ret2
  exact ⟨rfl, below_drewN ((Below.refl _ _).alloc (Nat.le_refl _) _) nq⟩

set_option maxRecDepth 100000 in
theorem ofNothing_calls (v : Nat → Int) (t : ByteArray) (w : World) : Calls Try.prog 59 #[.agg (factC v t)] w fun e W' => e = .returned (.tuple #[.int .i64 0, .int .i64 0]) ∧ Below w.heap.size w W' := by
  go_enter Try.func59, Try.ntmps59
  go_wp2_with fail
  go_ret2
  exact ⟨rfl, (Below.refl _ _).alloc (Nat.le_refl _) _⟩


/-- The function that returns the two numbers of a key. -/
def abF (k : Int) : Nat :=
  if k = 1 ∨ k = 2 then 52
  else if k = 3 ∨ k = 5 ∨ k = 8 then 53
  else if k = 4 then 54
  else if k = 6 then 55
  else if k = 7 then 56
  else if k = 9 then 57
  else if k = 10 then 58
  else 59
theorem kind_cases (k : Int) : k = 1 ∨ k = 2 ∨ k = 3 ∨ k = 4 ∨ k = 5 ∨ k = 6 ∨ k = 7 ∨ k = 8 ∨ k = 9 ∨ k = 10 ∨ (¬ k = 1 ∧ ¬ k = 2 ∧ ¬ k = 3 ∧ ¬ k = 4 ∧ ¬ k = 5 ∧ ¬ k = 6 ∧ ¬ k = 7 ∧ ¬ k = 8 ∧ ¬ k = 9 ∧ ¬ k = 10) := by omega
theorem about_calls (k : Int) (w : World) : Calls Try.prog 34 #[.int .i64 k] w fun e W' => e = .returned (.func (.func (abF k)) #[] #[]) ∧ w = W' := by
  rcases kind_cases k with rfl | rfl | rfl | rfl | rfl | rfl | rfl | rfl | rfl | rfl | ⟨h1, h2, h3, h4, h5, h6, h7, h8, h9, h10⟩

  · go_enter Try.func34, Try.ntmps34
    go_wp2_with fail
    go_ret
    exact ⟨rfl, rfl⟩
  · go_enter Try.func34, Try.ntmps34
    go_wp2_with fail
    go_ret
    exact ⟨rfl, rfl⟩
  · go_enter Try.func34, Try.ntmps34
    go_wp2_with fail
    go_ret
    exact ⟨rfl, rfl⟩
  · go_enter Try.func34, Try.ntmps34
    go_wp2_with fail
    go_ret
    exact ⟨rfl, rfl⟩
  · go_enter Try.func34, Try.ntmps34
    go_wp2_with fail
    go_ret
    exact ⟨rfl, rfl⟩
  · go_enter Try.func34, Try.ntmps34
    go_wp2_with fail
    go_ret
    exact ⟨rfl, rfl⟩
  · go_enter Try.func34, Try.ntmps34
    go_wp2_with fail
    go_ret
    exact ⟨rfl, rfl⟩
  · go_enter Try.func34, Try.ntmps34
    go_wp2_with fail
    go_ret
    exact ⟨rfl, rfl⟩
  · go_enter Try.func34, Try.ntmps34
    go_wp2_with fail
    go_ret
    exact ⟨rfl, rfl⟩
  · go_enter Try.func34, Try.ntmps34
    go_wp2_with fail
    go_ret
    exact ⟨rfl, rfl⟩
  · rw [show abF k = 59 by unfold abF; simp [h1, h2, h3, h4, h5, h6, h7, h8, h9, h10]]
    go_enter Try.func34, Try.ntmps34
    go_wp2_with fail
    go_ret
    exact ⟨rfl, rfl⟩
theorem thing_calls (v : Nat → Int) (t : ByteArray) (w : World) : Calls Try.prog (abF (v 0)) #[.agg (factC v t)] w fun e W' => e = .returned (.tuple #[.int .i64 (kyF v).1, .int .i64 (kyF v).2]) ∧ Below w.heap.size w W' := by
  rcases kind_cases (v 0) with h | h | h | h | h | h | h | h | h | h | ⟨h1, h2, h3, h4, h5, h6, h7, h8, h9, h10⟩

  · rw [show abF (v 0) = 52 by rw [h]; rfl, show kyF v = ((v 6), (v 1)) by unfold kyF; rw [h]; rfl]; exact ofDevice_calls v t w
  · rw [show abF (v 0) = 52 by rw [h]; rfl, show kyF v = ((v 6), (v 1)) by unfold kyF; rw [h]; rfl]; exact ofDevice_calls v t w
  · rw [show abF (v 0) = 53 by rw [h]; rfl, show kyF v = ((v 1), 0) by unfold kyF; rw [h]; rfl]; exact ofID_calls v t w
  · rw [show abF (v 0) = 54 by rw [h]; rfl, show kyF v = ((v 9), (v 11)) by unfold kyF; rw [h]; rfl]; exact ofHolder_calls v t w
  · rw [show abF (v 0) = 53 by rw [h]; rfl, show kyF v = ((v 1), 0) by unfold kyF; rw [h]; rfl]; exact ofID_calls v t w
  · rw [show abF (v 0) = 55 by rw [h]; rfl, show kyF v = ((v 5), (v 3)) by unfold kyF; rw [h]; rfl]; exact ofAccount_calls v t w
  · rw [show abF (v 0) = 56 by rw [h]; rfl, show kyF v = ((v 15), (v 3)) by unfold kyF; rw [h]; rfl]; exact ofCurrency_calls v t w
  · rw [show abF (v 0) = 53 by rw [h]; rfl, show kyF v = ((v 1), 0) by unfold kyF; rw [h]; rfl]; exact ofID_calls v t w
  · rw [show abF (v 0) = 57 by rw [h]; rfl, show kyF v = ((v 11), 0) by unfold kyF; rw [h]; rfl]; exact ofFrom_calls v t w
  · rw [show abF (v 0) = 58 by rw [h]; rfl, show kyF v = ((v 8), (v 11)) by unfold kyF; rw [h]; rfl]; exact ofTerritory_calls v t w
  · rw [show abF (v 0) = 59 by unfold abF; simp [h1, h2, h3, h4, h5, h6, h7, h8, h9, h10], show kyF v = (0, 0) by unfold kyF; simp [h1, h2, h3, h4, h5, h6, h7, h8, h9, h10]]; exact ofNothing_calls v t w

theorem abF_cases (k : Int) : abF k = 52 ∨ abF k = 53 ∨ abF k = 54 ∨ abF k = 55 ∨ abF k = 56 ∨ abF k = 57 ∨ abF k = 58 ∨ abF k = 59 := by
  unfold abF
  (repeat' split) <;> simp
theorem callAb (k : Int) (args : Array Value) (w : World) : (callFunc (abF k) args).run Try.prog w = .ok (.enter (abF k) args) w := by
  rcases abF_cases k with h | h | h | h | h | h | h | h <;> rw [h]
  · simp [go_sem]
  · simp [go_sem]
  · simp [go_sem]
  · simp [go_sem]
  · simp [go_sem]
  · simp [go_sem]
  · simp [go_sem]
  · simp [go_sem]
end Go.Proofs.Ytngkfopdlkddnaa
namespace Go.Proofs.Ytngkfopdlkddnaa
open Go.RowKit
/-- A key as a value. -/
abbrev keyV (v : Nat → Int) : Value := .agg #[.int .i64 (v 0), .int .i64 (kyF v).1, .int .i64 (kyF v).2]
set_option maxRecDepth 100000 in
set_option maxHeartbeats 4000000 in
theorem Key_calls (v : Nat → Int) (t : ByteArray) (w : World) : Calls Try.prog 16 #[.agg (factC v t)] w fun e W' => e = .returned (keyV v) ∧ Below w.heap.size w W' := by
  have HT := Lib.hid (fun W => thing_calls v t W)
  have HA := Lib.hid (fun W => about_calls (v 0) W)
  have hcall := callAb (v 0)
  generalize abF (v 0) = g at *
  change Calls _ _ _ _ (fun e W' => e = .returned (.agg #[.int .i64 (v 0), .int .i64 (kyF v).1, .int .i64 (kyF v).2]) ∧ Below w.heap.size w W')
  generalize kyF v = ky at *
  obtain ⟨k1, k2⟩ := ky
  go_enter Try.func16, Try.ntmps16
  go_wp2_with fail
  obtain ⟨W0, hW0, f0, f1, b0⟩ : ∃ W0, (w.alloc (.cells (factC v t) 29)).alloc (.cells #[.int .i64 0, .int .i64 0, .int .i64 0] 41) = W0 ∧ W0.heap[w.heap.size]? = some (.cells (factC v t) 29 (0, 0)) ∧ W0.heap[w.heap.size + 1]? = some (.cells #[.int .i64 0, .int .i64 0, .int .i64 0] 41 (0, 0)) ∧ Below w.heap.size w W0 :=
    ⟨_, rfl, (((Below.refl _ (w.alloc _)).alloc (Nat.le_refl _) _).block _ (by simp)).trans (heap_new w _), by simpa using heap_new (w.alloc (.cells (factC v t) 29)) _, ((Below.refl _ _).alloc (Nat.le_refl _) _).alloc (by simp) _⟩
  rw [hW0]
  clear hW0
  obtain ⟨c0, c1, c2, c3, c4, c5, c6, c7, c8, c9, c10, c11, c12, c13, c14, c15, c16, c17⟩ := row18x f0
  have F0 := Lib.hid f0
  have F1 := Lib.hid f1
  clear f0 f1
  refine wp_region_hl W0 (Hl.refl _) (by kernel_rfl) (by kernel_rfl) ?_
  repeat (first
    | go_big_quiet_skip
    | (go_big_quiet_want; go_big_quiet_op; first
      | go_big_quiet_on
      | (apply Exists.intro; refine ⟨fun _ => hl_same (HA.out _), ?_⟩; go_big_quiet_on)
      | (apply Exists.intro; refine ⟨fun _ => hl_call (HT.out _), ?_⟩; go_big_quiet_on)))
  refine wpQuiet_nil ?_
  intro W1 h1
  have F1' := Lib.hid (h1.row F1.out)
  have bW := b0.trans (Below.mono h1 b0.size)
  clear c0 c1 c2 c3 c4 c5 c6 c7 c8 c9 c10 c11 c12 c13 c14 c15 c16 c17
  obtain ⟨c0, -⟩ := row18 (h1.row F0.out)
  have hi : (Try.prog.info? 41).map (·.size) = some (#[.int .i64 (v 0), .int .i64 k1, .int .i64 k2] : Array Value).size := by kernel_rfl
  have hone : (#[.int .i64 (v 0), .int .i64 k1, .int .i64 k2] : Array Value).all (·.oneCell') = true := by
    rw [Array.all_eq_true_iff_forall_mem]; intro x hx; simp at hx; rcases hx with rfl | rfl | rfl <;> rfl
  go_wp2_with (refine wpList_store_row rfl 41 _ _ rfl (w.heap.size + 1) #[.int .i64 (v 0), .int .i64 k1, .int .i64 k2] rfl rfl 41 _ F1'.out hi rfl hone ?_)
  refine bodyPost_ret (v := .agg #[.int .i64 (v 0), .int .i64 k1, .int .i64 k2]) ?_ rfl ?_
  · exact results_cell_row rfl _ _ (w.heap.size + 1) 41 _ (0, 0) _ rfl (setRow_heap W1 (w.heap.size + 1) _ _ 41 (0, 0) F1'.out) Try.underlying41 rfl hi
  · exact ⟨rfl, below_setRow' bW _ _ (by omega)⟩

end Go.Proofs.Ytngkfopdlkddnaa
