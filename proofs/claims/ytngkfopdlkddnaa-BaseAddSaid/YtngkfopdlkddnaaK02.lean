/- The contract of package wire's PutInt, which ranges over a function: for every integer from -(2^62 - 1) to 2^62 - 1 it returns the encoding, for every other one ErrWire; nothing that was there has changed. | The contract of the library function that clones a string, for every string of at most 2^48 bytes: the same bytes come back, and nothing that was there has changed. | Contracts of package wire's Int, String and PutString in the cases that the laws meet. Conditions: lengths that fit memory. -/
import Derived.Test.YtngkfopdlkddnaaK01
import Derived.RangeFuncNested
import Derived.RangeFuncBound
import Derived.RangeFuncCalls
import Derived.RangeFuncLeaves
import Derived.RangeFuncFrom
import Derived.RangeFuncBox
import Derived.Shelf.Abstract
import Derived.Shelf.RegionOpen
import Derived.OwnWalkIn
import Derived.TacticsInMore
import Derived.LoopNIn
import Derived.LoopIn
import Derived.Laws.BytesArg
import Derived.Shelf.LaysM
import Derived.Shelf.Strconv.Clone
import Derived.Lib.Strings
import Derived.Lib.IndexBytes
namespace Go.Proofs.Ytngkfopdlkddnaa
open Go.RowKit Go.Shelf
attribute [local go_sem] Oper.semAt_some

set_option maxRecDepth 100000 in
set_option maxHeartbeats 1000000 in
theorem groups1_in (F : Fence) (n : Nat) (h30 : F.fn 88) (hro : F.round = none) (hn : 1 ≤ n) (l Bn n₀ : Nat) (z : Nat) (hz : z < 9223372036854775808) (J Jx : List UInt8 → World → Prop)
    (hY : ∀ pre x W, J pre W → pre.length < (enc z).length → YieldAt F (n - 1) Try.prog l #[.int .u8 (x.toNat : Int)] W fun e W' =>
      (e = .returned (.bool true) ∧ J (pre ++ [x]) W' ∧ Below n₀ W W') ∨ (e = .returned (.bool false) ∧ Jx (pre ++ [x]) W'))
    (W : World) (hBn : W.cell? ⟨Bn, 0, none⟩ = some (.int .i64 (z : Int))) (h0 : J [] W) :
    CallsIn F n Try.prog 88 #[.func (.yield l) #[] #[], .pointer (some ⟨Bn, 0, none⟩)] W fun e W' => (∃ v, e = .returned v) ∧
      ((∃ ys, ys = enc z ∧ J ys W') ∨ (∃ pre, pre <+: enc z ∧ Jx pre W')) := by
  refine callsIn_of_wp Try.func88 rfl h30 ?_ hro
  simp only [Try.ntmps88, List.size_toArray, List.length_cons, List.length_nil, Nat.reduceAdd, Nat.reduceSub, Array.replicate_succ, Array.replicate_zero, List.push_toArray, List.append_toArray, List.nil_append, List.cons_append]
  gi_wp2
  gi_loopw [3] (fun r wr => ∃ (pre : List UInt8) (k y : Nat), r = .int .i64 (y : Int) ∧ Hid (y < 128 ^ (k + 1)) ∧ Hid (y < 9223372036854775808) ∧ Hid (enc z = pre ++ encF k y) ∧ J pre wr)
    (fun r _ => (intOf r).toNat)
  case atStart =>
    exact ⟨[], 8, z, rfl, Lib.hid (by simpa using hz), Lib.hid hz, Lib.hid rfl, h0⟩
  case round =>
    obtain ⟨pre, k, y, rfl, Hy, Hy9, Hx, hJs⟩ := hrel
    have hy9 : (y : Int) ≤ 9223372036854775807 := by have := Hy9.out; omega
    by_cases hlt : (128 : Int) ≤ (y : Int)
    · have hk : ∃ j, k = j + 1 := by
        cases k with
        | zero => have := Hy.out; simp at this; omega
        | succ j => exact ⟨j, rfl⟩
      obtain ⟨j, rfl⟩ := hk
      have hx2 : enc z = (pre ++ [UInt8.ofNat (y % 128 + 128)]) ++ encF j (y / 128) := by
        have := Hx.out
        rw [encF, if_neg (by omega)] at this
        rw [this]; simp
      have Hx2 := Lib.hid hx2
      have hlen : pre.length < (enc z).length := by rw [hx2]; simp
      have Hy2 : Hid (y / 128 < 128 ^ (j + 1)) := Lib.hid (by have := Hy.out; rw [Nat.pow_succ] at this; omega)
      have Hy3 : Hid (y / 128 < 9223372036854775808) := Lib.hid (by have := Hy9.out; omega)
      have hb : (((UInt8.ofNat (y % 128 + 128)).toNat : Nat) : Int) = (y : Int) % 128 + 128 := by simp; omega
      obtain ⟨fn, tmps, assign, body, hy, hR⟩ := hY pre (UInt8.ofNat (y % 128 + 128)) wr hJs hlen
      rw [hb] at hy
      have hprev : pre ++ [UInt8.ofNat (y % 128 + 128)] <+: enc z := ⟨encF j (y / 128), by rw [hx2]⟩
      have Hpre := Lib.hid hprev
      clear hx2 hb hlen hprev
      gi_wp2
      refine hR.mono ?_
      rintro e W3 (⟨rfl, hJ3, hk3⟩ | ⟨rfl, hJx3⟩)
      · gi_wp2
        go_roundw
        case rel => exact ⟨pre ++ [UInt8.ofNat (y % 128 + 128)], j, y / 128, by go_num, Hy2, Hy3, Hx2, hJ3⟩
        case measure => simp [intOf]; omega
      · gi_wp2
        refine bodyPost_ret (results_none rfl _ _ _) rfl ?_
        exact ⟨⟨_, rfl⟩, .inr ⟨_, Hpre.out, hJx3⟩⟩
    · have hlt2 : (y : Int) < 128 := by omega
      have hx2 : enc z = pre ++ [UInt8.ofNat y] := by
        have h1 := Hx.out
        rw [h1]
        cases k with
        | zero => rfl
        | succ j => rw [encF, if_pos (by omega)]
      have Hx2 := Lib.hid hx2
      have hlen : pre.length < (enc z).length := by rw [hx2]; simp
      have hb : (((UInt8.ofNat y).toNat : Nat) : Int) = (y : Int) := by simp; omega
      obtain ⟨fn, tmps, assign, body, hy, hR⟩ := hY pre (UInt8.ofNat y) wr hJs hlen
      rw [hb] at hy
      clear hx2 hb hlen hlt
      gi_wp2
      refine hR.mono ?_
      rintro e W3 (⟨rfl, hJ3, hk3⟩ | ⟨rfl, hJx3⟩)
      · gi_wp2
        go_end0
        exact ⟨⟨_, rfl⟩, .inl ⟨_, Hx2.out.symm, hJ3⟩⟩
      · gi_wp2
        go_end0
        exact ⟨⟨_, rfl⟩, .inr ⟨_, by rw [Hx2.out]; exact List.prefix_refl _, hJx3⟩⟩

set_option maxHeartbeats 1000000 in
theorem groups_in (F : Fence) (n : Nat) (h24 : F.fn 71) (hro : F.round = none) (z : Int) (w : World) :
    CallsIn F n Try.prog 71 #[.int .i64 z] w fun e w' => e = .returned (.func (.func 88) #[] #[.pointer (some ⟨w.heap.size, 0, none⟩)]) ∧ w' = w.alloc (.cells #[.int .i64 z] 3) := by
  refine callsIn_of_wp Try.func71 rfl h24 ?_ hro
  simp only [Try.ntmps71, List.size_toArray, List.length_cons, List.length_nil, Nat.reduceAdd, Nat.reduceSub, Array.replicate_succ, Array.replicate_zero, List.push_toArray, List.append_toArray, List.nil_append, List.cons_append]
  gi_wp2
  go_ret
  exact ⟨rfl, rfl⟩

theorem groups_stops (F : Fence) (n : Nat) (h30 : F.fn 88) (hro : F.round = none) (hn : 1 ≤ n) (Bn n₀ : Nat) (z : Nat) (hz : z < 9223372036854775808) (w : World) (hBn : Bn < w.heap.size)
    (hc : w.cell? ⟨Bn, 0, none⟩ = some (.int .i64 (z : Int))) :
    SeqStopsK F n Try.prog 88 #[.pointer (some ⟨Bn, 0, none⟩)] (fun x : UInt8 => #[Value.int .u8 (x.toNat : Int)]) (Below n₀) (fun ys => ys = enc z) (fun pre => pre <+: enc z) (enc z).length w := fun l J Jx W hW _ _ hY h0 =>
  groups1_in F n h30 hro hn l Bn n₀ z hz J Jx hY W ((hW.cell (p := ⟨Bn, 0, none⟩) hBn).trans hc) h0

/-- The array of PutInt, in block B: the bytes so far, then zeros; it may be written. -/
def CodeAt (B : Nat) (pre : List UInt8) (W : World) : Prop :=
  ∀ i : Nat, i < 9 → W.cell? ⟨B, i, none⟩ = some (.int .u8 (((pre.getD i 0).toNat : Nat) : Int)) ∧ W.frozen? ⟨B, i, none⟩ = false

theorem cell_other (W : World) (a b : Addr) (v : Value) (h : a ≠ b) : (W.setCell a v).cell? b = W.cell? b := World.cell?_setCell_other _ _ _ _ h
theorem cell_same (W : World) (a : Addr) (v u : Value) (h : W.cell? a = some u) : (W.setCell a v).cell? a = some v := World.cell?_setCell_same _ _ _ h

theorem CodeAt.step {B : Nat} {pre : List UInt8} {W : World} (h : CodeAt B pre W) (x : UInt8) (v : Value) :
    CodeAt B (pre ++ [x]) ((W.setCell ⟨B, pre.length, none⟩ (.int .u8 (x.toNat : Int))).setCell ⟨B + 1, 0, none⟩ v) := by
  intro i hi
  obtain ⟨h1, h2⟩ := h i hi
  refine ⟨?_, by rw [World.frozen?_setCell, World.frozen?_setCell]; exact h2⟩
  rw [cell_other _ _ _ _ (by simp)]
  by_cases e : i = pre.length
  · subst e
    rw [cell_same _ _ _ _ h1]
    simp
  · rw [cell_other _ _ _ _ (by simp only [ne_eq, Addr.mk.injEq]; omega), h1]
    by_cases hl : i < pre.length
    · simp [List.getElem?_append_left hl]
    · simp [List.getElem?_eq_none (show pre.length ≤ i by omega), List.getElem?_eq_none (show (pre ++ [x]).length ≤ i by simp; omega)]

def zeros9 : Array Value := #[.int .u8 0, .int .u8 0, .int .u8 0, .int .u8 0, .int .u8 0, .int .u8 0, .int .u8 0, .int .u8 0, .int .u8 0]
theorem zeros9_at (i : Nat) (h : i < 9) : zeros9[i]? = some (.int .u8 0) := by
  have : ∀ i, i < 9 → zeros9[i]? = some (.int .u8 0) := by
    intro i hi
    rcases (show i = 0 ∨ i = 1 ∨ i = 2 ∨ i = 3 ∨ i = 4 ∨ i = 5 ∨ i = 6 ∨ i = 7 ∨ i = 8 by omega) with rfl | rfl | rfl | rfl | rfl | rfl | rfl | rfl | rfl <;> rfl
  exact this i h
theorem start_facts (w : World) (z : Int) : (CodeAt w.heap.size [] (((w.alloc (.cells zeros9 114)).alloc (.cells #[.int .i64 0] 3)).alloc (.cells #[.int .i64 z] 3)) ∧
    (((w.alloc (.cells zeros9 114)).alloc (.cells #[.int .i64 0] 3)).alloc (.cells #[.int .i64 z] 3)).cell? ⟨w.heap.size + 1, 0, none⟩ = some (.int .i64 0) ∧
    (((w.alloc (.cells zeros9 114)).alloc (.cells #[.int .i64 0] 3)).alloc (.cells #[.int .i64 z] 3)).frozen? ⟨w.heap.size + 1, 0, none⟩ = false) ∧
    (((w.alloc (.cells zeros9 114)).alloc (.cells #[.int .i64 0] 3)).alloc (.cells #[.int .i64 z] 3)).cell? ⟨w.heap.size + 1 + 1, 0, none⟩ = some (.int .i64 z) := by
  have e1 := World.alloc_heap_new w (.cells zeros9 114)
  generalize hW1 : w.alloc (.cells zeros9 114) = W1 at e1 ⊢
  have s1 : W1.heap.size = w.heap.size + 1 := by rw [← hW1]; simp
  have e2 := World.alloc_heap_new W1 (.cells #[.int .i64 0] 3)
  generalize hW2 : W1.alloc (.cells #[.int .i64 0] 3) = W2 at e2 ⊢
  have s2 : W2.heap.size = w.heap.size + 1 + 1 := by rw [← hW2]; simp [s1]
  have e3 := World.alloc_heap_new W2 (.cells #[.int .i64 z] 3)
  have b13 : Below (w.heap.size + 1) W1 (W2.alloc (.cells #[.int .i64 z] 3)) := by rw [← hW2]; exact ((Below.refl _ W1).alloc (by omega) _).alloc (by simp; omega) _
  have b23 : Below (w.heap.size + 1 + 1) W2 (W2.alloc (.cells #[.int .i64 z] 3)) := (Below.refl _ W2).alloc (by omega) _
  generalize hW3 : W2.alloc (.cells #[.int .i64 z] 3) = W3 at e3 b13 b23 ⊢
  rw [s1] at e2
  rw [s2] at e3
  refine ⟨⟨fun i hi => ⟨?_, ?_⟩, ?_, ?_⟩, ?_⟩
  · rw [b13.cell (by simp)]
    have := zeros9_at i hi
    simp [World.cell?, e1, this]
  · rw [b13.frozen (by simp)]; simp [World.frozen?, e1]
  · rw [b23.cell (by simp)]; simp [World.cell?, e2]
  · rw [b23.frozen (by simp)]; simp [World.frozen?, e2]
  · simp [World.cell?, e3]

theorem str_bytes (l : List UInt8) : strOfNums (l.map fun b => ((b.toNat : Nat) : Int)) = ⟨l.toArray⟩ := by
  apply ByteArray.ext
  apply Array.ext'
  rw [strOfNums_data, List.map_map]
  conv => rhs; rw [← List.map_id l]
  apply List.map_congr_left
  intro b _
  simp

set_option maxRecDepth 100000 in
set_option maxHeartbeats 2000000 in
theorem putInt_in (m : Int) (w : World) (h1 : -4611686018427387903 ≤ m) (h2 : m ≤ 4611686018427387903) :
    CallsIn Fence.wide 3 Try.prog 60 #[.int .i64 m] w fun e W' => e = .returned (.tuple #[.string ⟨(putI m).toArray⟩, .int .i64 0]) ∧ Below w.heap.size w W' := by
  refine callsIn_of_wp_marks Try.func60 rfl trivial ?_ rfl
  simp only [Try.ntmps60, List.size_toArray, List.length_cons, List.length_nil, Nat.reduceAdd, Nat.reduceSub, Array.replicate_succ, Array.replicate_zero, List.push_toArray, List.append_toArray, List.nil_append, List.cons_append]
  gi_wp2_with (first | (refine ⟨trivial, ?_⟩; gi_at_call 70; refine (callsIn_wide.2 (fits_yes m _ h1 h2)).mono ?_; rintro e w' ⟨rfl, rfl⟩) | (refine ⟨trivial, ?_⟩; gi_at_call 72; refine (callsIn_wide.2 (fold_calls m _ h1 h2)).mono ?_; rintro e w' ⟨rfl, rfl⟩) | (refine ⟨trivial, ?_⟩; gi_at_call 71; refine (groups_in Fence.wide _ trivial rfl _ _).mono ?_; rintro e w' ⟨rfl, rfl⟩))
  have Henc : Hid ((enc (fold m)).length ≤ 9) := Lib.hid (putI_length m).2
  have Hfold := Lib.hid (fold_lt m ⟨h1, h2⟩)
  have hB0 : Below w.heap.size w (((w.alloc (.cells #[.int .u8 0, .int .u8 0, .int .u8 0, .int .u8 0, .int .u8 0, .int .u8 0, .int .u8 0, .int .u8 0, .int .u8 0] 114)).alloc (.cells #[.int .i64 0] 3)).alloc (.cells #[.int .i64 ((fold m : Nat) : Int)] 3)) :=
    (((Below.refl _ w).alloc (Nat.le_refl _) _).alloc (by simp) _).alloc (by simp; omega) _
  have Hst := Lib.hid (start_facts w ((fold m : Nat) : Int))
  unfold zeros9 at Hst
  refine wpIn_rangeFunc_ownF rfl (by omega) (gf := 88) (lb := #[.pointer (some ⟨w.heap.size + 1 + 1, 0, none⟩)]) rfl trivial (enters_of Try.func88 (by kernel_rfl) rfl)
    (groups_stops Fence.wide 2 trivial rfl (by omega) (w.heap.size + 1 + 1) w.heap.size (fold m) Hfold.out _ (by simp) Hst.out.2) belowK_t (belowK_b (by simp; omega)) (Below.refl _ _) (fun _ => rfl)
    (fun pre W => (CodeAt w.heap.size pre W ∧ W.cell? ⟨w.heap.size + 1, 0, none⟩ = some (.int .i64 (pre.length : Int)) ∧ W.frozen? ⟨w.heap.size + 1, 0, none⟩ = false) ∧ Below w.heap.size w W)
    (fun _ _ _ => False)
    (OwnFrom.and (Own.from (fun s A B row hs hg hr => ⟨fun i hi => ⟨cell_kept (hs.1 i hi).1 hg hr, (frozen_kept (hs.1 i hi).1 hg hr).trans (hs.1 i hi).2⟩, cell_kept hs.2.1 hg hr, (frozen_kept hs.2.1 hg hr).trans hs.2.2⟩) _) (ownFrom_below (Nat.le_refl _) (by simp; omega)))
    (fun _ _ _ _ _ hs _ _ => hs)
    ?start
    (fun x => { tmps := #[.int .i64 m, undef, .string ⟨#[]⟩, .int .i64 0, .pointer (some ⟨w.heap.size, 0, none⟩), .pointer (some ⟨w.heap.size + 1, 0, none⟩), .int .u8 (x.toNat : Int), .int .i64 m, .bool true, .bool false, .int .i64 m, .int .i64 ((fold m : Nat) : Int), .func (.func 88) #[] #[.pointer (some ⟨w.heap.size + 1 + 1, 0, none⟩)], .int .u8 (x.toNat : Int), undef, undef, undef, undef, undef, undef, undef, undef], defers := [] }) ?assign ?body ?done ?stop
  case start =>
    exact ⟨Hst.out.1, hB0⟩
  case assign =>
    intro l x W K hK
    gi_wp2
    exact hK
  case body =>
    rintro l pre x W ⟨⟨hc, hs, hf⟩, hB⟩ hlen
    have hk9 : pre.length < 9 := Nat.lt_of_lt_of_le hlen Henc.out
    have hc1 := (hc pre.length hk9).1
    have hc2 := (hc pre.length hk9).2
    have Hc := Lib.hid (hc.step x (.int .i64 ((pre.length : Int) + 1)))
    clear hc hlen
    gi_wp2
    refine ⟨(KeepsOthers.setCell _ _ _).trans (KeepsOthers.setCell _ _ _), ((Below.refl w.heap.size W).setCell (p := ⟨w.heap.size, pre.length, none⟩) (Nat.le_refl _) _).setCell (p := ⟨w.heap.size + 1, 0, none⟩) (by simp) _, ⟨Hc.out, ?_, ?_⟩, (hB.setCell (p := ⟨w.heap.size, pre.length, none⟩) (Nat.le_refl _) _).setCell (p := ⟨w.heap.size + 1, 0, none⟩) (by simp) _⟩
    · rw [cell_same _ _ _ (.int .i64 (pre.length : Int)) (by rw [cell_other _ _ _ _ (by simp)]; exact hs)]
      simp
    · rw [World.frozen?_setCell, World.frozen?_setCell]; exact hf
  case done =>
    rintro D ys W hD hys ⟨⟨hc, hs, hf⟩, hB⟩ hK
    have hl9 : (ys.length : Int) ≤ 9 := by have := Henc.out; rw [← hys] at this; omega
    have hcv := run_convert_bytes_arg (P := Try.prog) W 101 5 Try.underlying101 Try.underlying5 w.heap.size 0 ys.length 9 (ys.map fun b => ((b.toNat : Nat) : Int)) (by simp) (fun i hi => by
      rw [Nat.zero_add, (hc i (by omega)).1]; simp [List.getElem?_map, List.getElem?_eq_getElem hi]) 9 Try.underlying9
    rw [str_bytes] at hcv
    have Hys := Lib.hid hys
    clear hys hc
    gi_wp2
    refine ⟨by simp, .inl ⟨_, _, rfl, run_takeDeferred hK, ?_⟩⟩
    exact ⟨_, results_tmp2 rfl _ _ _, by rw [Hys.out]; rfl, hB.trans (belowK_b (w := w) (Nat.le_refl _) W D _ _ (by simp at hD; omega) hK rfl rfl)⟩
  case stop =>
    rintro D c pre W _ _ h _
    exact h.elim

theorem putInt_yes (m : Int) (w : World) (h1 : -4611686018427387903 ≤ m) (h2 : m ≤ 4611686018427387903) :
    Calls Try.prog 60 #[.int .i64 m] w fun e W' => e = .returned (.tuple #[.string ⟨(putI m).toArray⟩, .int .i64 0]) ∧ Below w.heap.size w W' :=
  callsIn_wide.1 (putInt_in m w h1 h2)

theorem putInt_low (m : Int) (w : World) (h1 : m < -4611686018427387903) :
    Calls Try.prog 60 #[.int .i64 m] w fun e W' => e = .returned (.tuple #[.string ⟨#[]⟩, .int .i64 10]) ∧ w = W' := by
  go_enter Try.func60, Try.ntmps60
  go_wp2_with (go_at_call 70; refine (fits_low m _ h1).mono ?_; rintro e w' ⟨rfl, rfl⟩)
  go_ret2
  exact ⟨rfl, rfl⟩
theorem putInt_high (m : Int) (w : World) (h1 : 4611686018427387903 < m) :
    Calls Try.prog 60 #[.int .i64 m] w fun e W' => e = .returned (.tuple #[.string ⟨#[]⟩, .int .i64 10]) ∧ w = W' := by
  go_enter Try.func60, Try.ntmps60
  go_wp2_with (go_at_call 70; refine (fits_high m _ h1).mono ?_; rintro e w' ⟨rfl, rfl⟩)
  go_ret2
  exact ⟨rfl, rfl⟩

end Go.Proofs.Ytngkfopdlkddnaa
namespace Go.Proofs.Ytngkfopdlkddnaa
open Go.Shelf
def laysM316_ren : Go.Shelf.Ren := ⟨fun | 316 => 84 | n => n, fun | 9 => 9 | 3 => 3 | 4 => 4 | 37 => 101 | 0 => 0 | 127 => 139 | 5 => 5 | n => n, fun | n => n⟩
theorem laysM316 : Go.Proofs.LaysM.n316 Try.prog laysM316_ren := {
  mixed := by kernel_rfl
  f316 := Try.func84.trans (congrArg some (by kernel_rfl))
  t0 := Try.underlying0
  a0 := Try.isAgg0
  z0 := Try.sizeOf0
  v0 := Try.zeroValue0
  t3 := Try.underlying3
  a3 := Try.isAgg3
  z3 := Try.sizeOf3
  v3 := Try.zeroValue3
  t4 := Try.underlying4
  a4 := Try.isAgg4
  z4 := Try.sizeOf4
  v4 := Try.zeroValue4
  t9 := Try.underlying9
  a9 := Try.isAgg9
  z9 := Try.sizeOf9
  v9 := Try.zeroValue9
  t37 := Try.underlying101
  a37 := Try.isAgg101
  z37 := Try.sizeOf101
  v37 := Try.zeroValue101
  t127 := Try.underlying139
  a127 := Try.isAgg139
  z127 := Try.sizeOf139
  v127 := Try.zeroValue139
  t5 := Try.underlying5
  a5 := Try.isAgg5
  z5 := Try.sizeOf5
  v5 := Try.zeroValue5
  i0 := by kernel_rfl
  i3 := by kernel_rfl
  i4 := by kernel_rfl
  i5 := by kernel_rfl
  i9 := by kernel_rfl
  i37 := by kernel_rfl
  i127 := by kernel_rfl }
open Go.RowKit in
theorem stringslite_Clone (s : ByteArray) (w : World) (hlim : s.size ≤ 281474976710656) :
    Calls Try.prog 84 #[.string s] w fun e w' => e = .returned (.string s) ∧ Below w.heap.size w w' := Any.stringslite_Clone laysM316 s w hlim
end Go.Proofs.Ytngkfopdlkddnaa
namespace Go.Proofs.Ytngkfopdlkddnaa
open Go.RowKit
theorem bytes_append (l : List UInt8) (s : ByteArray) : (⟨l.toArray⟩ : ByteArray) ++ s = ⟨(l ++ s.data.toList).toArray⟩ := by
  apply ByteArray.ext
  apply Array.ext'
  rw [ByteArray.data_append]
  simp

theorem putString_yes (s : ByteArray) (w : World) (hs : s.size ≤ 65536) :
    Calls Try.prog 61 #[.string s] w fun e W' => e = .returned (.tuple #[.string ⟨(putS s.data.toList).toArray⟩, .int .i64 0]) ∧ Below w.heap.size w W' := by
  have hs2 : (s.size : Int) ≤ 65536 := by omega
  go_enter Try.func61, Try.ntmps61
  go_wp2_with fail
  refine (putInt_yes _ _ (by omega) (by omega)).mono ?_
  rintro e w1 ⟨rfl, hB⟩
  have hl := (putI_length (s.size : Int)).2
  go_wp2_with fail
  go_ret2
  refine ⟨?_, hB⟩
  rw [show putS s.data.toList = putI (s.size : Int) ++ s.data.toList from rfl, ← bytes_append]
  rfl

theorem putString_no (s : ByteArray) (w : World) (hs : 65536 < s.size) (hs1 : s.size ≤ 9223372036854775807) :
    Calls Try.prog 61 #[.string s] w fun e W' => e = .returned (.tuple #[.string ⟨#[]⟩, .int .i64 10]) ∧ w = W' := by
  have hs2 : (65536 : Int) < (s.size : Int) := by omega
  go_enter Try.func61, Try.ntmps61
  go_wp2_with fail
  go_ret2
  exact ⟨rfl, rfl⟩

theorem strings_Clone (s : ByteArray) (w : World) (h : s.size ≤ 281474976710656) :
    Calls Try.prog 65 #[.string s] w fun e w' => e = .returned (.string s) ∧ Below w.heap.size w w' := by
  go_enter Try.func65, Try.ntmps65
  go_wp2_with fail
  refine (stringslite_Clone _ _ h).mono ?_
  rintro e w2 ⟨rfl, hB⟩
  go_wp2_with fail
  go_ret
  exact ⟨rfl, hB⟩

/-! ### One contract for each, for every argument -/
/-- What String returns. -/
def strF (s : List UInt8) (a : Int) : List UInt8 × Int × Int :=
  if a < 0 ∨ (s.length : Int) < a then ([], 0, 2) else
  match getS s a.toNat with
  | none => ([], 0, 10)
  | some (v, e) => (v, (e : Int), 0)

end Go.Proofs.Ytngkfopdlkddnaa
