/- Rows of ints as arrays; the contracts of package fact's measures. | The contract of package fact's Valid. -/
import Derived.Test.YtngkfopdlkddnaaK04
import Derived.Test.YtngkfopdlkddnaaK06
namespace Go.Proofs.Ytngkfopdlkddnaa
open Go.RowKit

/-- n ints as an array's cells. -/
def arrF (n : Nat) (f : Nat → Int) : Array Value := ((List.range n).map fun i => .int .i64 (f i)).toArray
theorem arrF_size (n : Nat) (f : Nat → Int) : (arrF n f).size = n := by simp [arrF]
theorem arrF_get (n : Nat) (f : Nat → Int) (i : Nat) (h : i < n) : (arrF n f)[i]? = some (.int .i64 (f i)) := by simp [arrF, h]
theorem arrF_one (n : Nat) (f : Nat → Int) : (arrF n f).all (·.oneCell') = true := by
  rw [Array.all_eq_true_iff_forall_mem]
  intro x hx
  obtain ⟨y, _, rfl⟩ := List.mem_map.1 (List.mem_toArray.1 hx)
  rfl
theorem arrF_set (n : Nat) (f : Nat → Int) (k : Nat) (x : Int) : (arrF n f).setIfInBounds k (.int .i64 x) = arrF n (fun i => if i = k then x else f i) := by
  apply Array.ext'
  unfold arrF
  rw [List.setIfInBounds_toArray]
  apply List.ext_getElem
  · simp
  · intro i h1 h2
    simp only [List.getElem_set, List.getElem_map, List.getElem_range]
    by_cases h : k = i
    · subst h; simp
    · rw [if_neg h, if_neg (fun e => h e.symm)]
theorem arrF_congr (n : Nat) (f g : Nat → Int) (h : ∀ i, i < n → f i = g i) : arrF n f = arrF n g := by
  unfold arrF
  congr 1
  apply List.map_congr_left
  intro i hi
  rw [h i (List.mem_range.1 hi)]
theorem run_index_agg (T n e : Nat) (hu : Try.prog.underlying T = some (.array n e)) (k : Nat) (h : k < n) (cs : Array Value) (x : Value) (hc : cs[k]? = some x) (W : World) (ha : (isAgg e).run Try.prog W = .ok false W) (hs : (sizeOf e).run Try.prog W = .ok 1 W) :
    (Instr.index T (.agg cs) (.int .i64 (k : Int))).run Try.prog W = .ok x W := by
  have h3 : cs[k]? = some x := hc
  simp [Instr.index, asIntOf, run_underlying hu, Result.andThen, hs, part, ha, h3]
  intro hh
  omega
theorem ptrL_at (b o k : Nat) (h : k < 17) (W : World) : (Instr.index 97 (.agg (ptrL b o).toArray) (.int .i64 (k : Int))).run Try.prog W = .ok (.pointer (some ⟨b, o + k, none⟩)) W :=
  run_index_agg _ 17 96 Try.underlying97 k h _ _ (by simp [ptrL, h]) W (by simp [go_sem]) (by simp [go_sem])
theorem arr18_at (f : Nat → Int) (k : Nat) (h : k < 18) (W : World) : (Instr.index 73 (.agg (arrF 18 f)) (.int .i64 (k : Int))).run Try.prog W = .ok (.int .i64 (f k)) W :=
  run_index_agg _ 18 3 Try.underlying73 k h _ _ (arrF_get 18 f k h) W (by simp [go_sem]) (by simp [go_sem])
theorem hiArr (f : Nat → Int) : (Try.prog.info? 73).map (·.size) = some (arrF 18 f).size := by rw [arrF_size]; kernel_rfl
/-- The measures when k numbers have been laid. -/
def midF (v : Nat → Int) (n : Int) (k i : Nat) : Int := if i < k then v i else if i = 17 then n else 0
theorem midF_step (v : Nat → Int) (n : Int) (k : Nat) : (fun i => if i = k then v k else midF v n k i) = midF v n (k + 1) := by
  funext i
  unfold midF
  by_cases h : i = k
  · subst h; rw [if_pos rfl, if_pos (by omega)]
  · rw [if_neg h]
    by_cases h2 : i < k
    · rw [if_pos h2, if_pos (by omega)]
    · rw [if_neg h2, if_neg (show ¬ i < k + 1 by omega)]
theorem factC_get (v : Nat → Int) (t : ByteArray) (k : Nat) (h : k < 17) : (factC v t)[k]? = some (.int .i64 (v k)) := by
  have hc : k = 0 ∨ k = 1 ∨ k = 2 ∨ k = 3 ∨ k = 4 ∨ k = 5 ∨ k = 6 ∨ k = 7 ∨ k = 8 ∨ k = 9 ∨ k = 10 ∨ k = 11 ∨ k = 12 ∨ k = 13 ∨ k = 14 ∨ k = 15 ∨ k = 16 := by omega
  rcases hc with rfl | rfl | rfl | rfl | rfl | rfl | rfl | rfl | rfl | rfl | rfl | rfl | rfl | rfl | rfl | rfl | rfl <;> rfl
theorem row_aft (w : World) (o x : Obj) (b : Nat) (h : w.heap[b]? = some x) : (w.alloc o).heap[b]? = some x := Hl.row ((Below.refl _ _).alloc (Nat.le_refl _) _) h
theorem arrLit : (#[.int .i64 0, .int .i64 0, .int .i64 0, .int .i64 0, .int .i64 0, .int .i64 0, .int .i64 0, .int .i64 0, .int .i64 0, .int .i64 0, .int .i64 0, .int .i64 0, .int .i64 0, .int .i64 0, .int .i64 0, .int .i64 0, .int .i64 0, .int .i64 0] : Array Value) = arrF 18 (fun _ => 0) := rfl
theorem arrLit17 (n : Int) : (#[.int .i64 0, .int .i64 0, .int .i64 0, .int .i64 0, .int .i64 0, .int .i64 0, .int .i64 0, .int .i64 0, .int .i64 0, .int .i64 0, .int .i64 0, .int .i64 0, .int .i64 0, .int .i64 0, .int .i64 0, .int .i64 0, .int .i64 0, .int .i64 n] : Array Value) = arrF 18 (midF (fun _ => 0) n 0) := rfl

set_option maxRecDepth 100000 in
set_option maxHeartbeats 4000000 in
theorem measures_calls (v : Nat → Int) (t : ByteArray) (w : World) : Calls Try.prog 32 #[.agg (factC v t)] w fun e W' => e = .returned (.agg (arrF 18 (msr v (t.size : Int)))) ∧ Below w.heap.size w W' := by
  go_enter Try.func32, Try.ntmps32
  go_upto_region 1 with (fail)
  obtain ⟨W0, hW0, f0, f1, b0⟩ := two_rows w (factC v t) (arrF 18 (fun _ => 0)) 29 73
  rw [arrLit] at *
  rw [hW0]
  clear hW0
  have c17 : W0.cell? ⟨w.heap.size, 17, none⟩ = some (.string t) := by rw [cell_of_row _ _ _ _ _ _ f0]; rfl
  have F0 := Lib.hid f0
  have F1 := Lib.hid f1
  clear f0 f1
  have hB : w.heap.size + 1 < W0.heap.size := (Array.getElem?_eq_some_iff.1 F1.out).1
  go_wp2_with fail
  obtain ⟨W1, hW1, g0, g1, g2, b1⟩ : ∃ W1, W0.alloc (.cells #[.int .i64 0, .int .i64 0, .int .i64 0, .int .i64 0, .int .i64 0, .int .i64 0, .int .i64 0, .int .i64 0, .int .i64 0, .int .i64 0, .int .i64 0, .int .i64 0, .int .i64 0, .int .i64 0, .int .i64 0, .int .i64 0, .int .i64 0, .int .i64 (t.size : Int)] 73) = W1 ∧ Hid (W1.heap[w.heap.size]? = some (.cells (factC v t) 29 (0, 0))) ∧ Hid (W1.heap[w.heap.size + 1]? = some (.cells (arrF 18 (fun _ => 0)) 73 (0, 0))) ∧
      Hid (W1.heap[W0.heap.size]? = some (.cells (arrF 18 (midF v (t.size : Int) 0)) 73 (0, 0))) ∧ Below w.heap.size w W1 :=
    ⟨_, rfl, Lib.hid (row_aft _ _ _ _ F0.out), Lib.hid (row_aft _ _ _ _ F1.out), Lib.hid (heap_new W0 _), b0.alloc b0.size _⟩
  rw [hW1]
  clear hW1 F0 F1 c17 b0
  refine (numbers_calls w.heap.size 0 _).mono ?_
  rintro e W2 ⟨rfl, b2⟩
  have h0 := Lib.hid (Hl.row b2 g0.out)
  have h1 := Lib.hid (Hl.row b2 g1.out)
  have h2 := Lib.hid (Hl.row b2 g2.out)
  have bW := b1.trans (b2.mono b1.size)
  clear g0 g1 g2 b1 b2
  generalize W0.heap.size = B at *
  go_wp2_with fail
  go_loopw [11] (fun kv wr => ∃ k : Nat, k ≤ 17 ∧ kv = .int .i64 k ∧ Hid (wr.heap[w.heap.size]? = some (.cells (factC v t) 29 (0, 0))) ∧ Hid (wr.heap[w.heap.size + 1]? = some (.cells (arrF 18 (fun _ => 0)) 73 (0, 0))) ∧
      Hid (wr.heap[B]? = some (.cells (arrF 18 (midF v (t.size : Int) k)) 73 (0, 0))) ∧ Below w.heap.size w wr) (fun kv _ => 17 - (intOf kv).toNat)
  case atStart => exact ⟨0, by omega, rfl, h0, h1, h2, bW⟩
  case round =>
    obtain ⟨k, hk, rfl, F0, F1, F2, bR⟩ := hrel
    clear h0 h1 h2 bW
    by_cases hlt : k < 17
    · have hix : ∀ W, (Instr.index 97 (.agg (ptrL w.heap.size 0).toArray) (.int .i64 (k : Int))).run Try.prog W = .ok (.pointer (some ⟨w.heap.size, k, none⟩)) W := fun W => by
        have := ptrL_at w.heap.size 0 k hlt W
        rwa [Nat.zero_add] at this
      have ck : wr.cell? ⟨w.heap.size, k, none⟩ = some (.int .i64 (v k)) := by rw [cell_of_row _ _ _ _ _ _ F0.out]; exact factC_get v t k hlt
      have cB : wr.cell? ⟨B, k, none⟩ = some (.int .i64 (midF v (t.size : Int) k k)) := by rw [cell_of_row _ _ _ _ _ _ F2.out]; exact arrF_get _ _ _ (by omega)
      have fB : wr.frozen? ⟨B, k, none⟩ = false := frozen_of_row _ _ _ _ _ F2.out
      have H0 := Lib.hid ((heap_setCell_other wr ⟨B, k, none⟩ w.heap.size (.int .i64 (v k)) (by simp; omega)).trans F0.out)
      have H1 := Lib.hid ((heap_setCell_other wr ⟨B, k, none⟩ (w.heap.size + 1) (.int .i64 (v k)) (by simp; omega)).trans F1.out)
      have H2 : Hid ((wr.setCell ⟨B, k, none⟩ (.int .i64 (v k))).heap[B]? = some (.cells (arrF 18 (midF v (t.size : Int) (k + 1))) 73 (0, 0))) := Lib.hid (by
        rw [heap_setCell_same _ _ _ _ _ _ F2.out, arrF_set, midF_step])
      have H3 := Lib.hid (bR.setCell (p := ⟨B, k, none⟩) (show w.heap.size ≤ B by omega) (.int .i64 (v k)))
      clear F0 F1 F2
      generalize midF v (t.size : Int) k k = z at *
      go_wp2_with fail
      go_roundw
      case rel => exact ⟨k + 1, by omega, by go_num, H0, H1, H2, H3.out⟩
      case measure => simp [intOf]; omega
    · obtain rfl : k = 17 := by omega
      have hx : (17 : Nat) < 18 := by omega
      have c0 : wr.cell? ⟨B, 0, none⟩ = some (.int .i64 (v 0)) := by rw [cell_of_row _ _ _ _ _ _ F2.out]; exact arrF_get _ _ _ (by omega)
      have c2 : wr.cell? ⟨B, 2, none⟩ = some (.int .i64 (v 2)) := by rw [cell_of_row _ _ _ _ _ _ F2.out]; exact arrF_get _ _ _ (by omega)
      have z0 : wr.frozen? ⟨B, 0, none⟩ = false := frozen_of_row _ _ _ _ _ F2.out
      have z2 : wr.frozen? ⟨B, 2, none⟩ = false := frozen_of_row _ _ _ _ _ F2.out
      rw [show ((17 : Nat) : Int) = 17 from rfl]
      go_upto_region 8 with (fail)
      obtain ⟨W3, hW3, G1, G2, b3⟩ : ∃ W3, (wr.setCell ⟨B, 0, none⟩ (.int .i64 0)).setCell ⟨B, 2, none⟩ (.int .i64 0) = W3 ∧ Hid (W3.heap[w.heap.size + 1]? = some (.cells (arrF 18 (fun _ => 0)) 73 (0, 0))) ∧
          Hid (W3.heap[B]? = some (.cells (arrF 18 (msr v (t.size : Int))) 73 (0, 0))) ∧ Below w.heap.size w W3 :=
        ⟨_, rfl, Lib.hid ((heap_setCell_other _ ⟨B, 2, none⟩ (w.heap.size + 1) _ (by simp; omega)).trans ((heap_setCell_other _ ⟨B, 0, none⟩ (w.heap.size + 1) _ (by simp; omega)).trans F1.out)),
          Lib.hid (by
            rw [heap_setCell_same _ _ _ _ _ _ (heap_setCell_same _ _ _ _ _ _ F2.out), arrF_set, arrF_set]
            refine congrArg (fun c => some (Obj.cells c 73 (0, 0))) (arrF_congr _ _ _ fun i hi => ?_)
            unfold msr midF
            by_cases h0 : i = 0
            · subst h0; rfl
            · by_cases h2 : i = 2
              · subst h2; rfl
              · by_cases h17 : i = 17
                · subst h17; rfl
                · rw [if_neg h2, if_neg h0, if_pos (show i < 17 by omega), if_neg (by omega), if_neg h17]),
          (bR.setCell (p := ⟨B, 0, none⟩) (show w.heap.size ≤ B by omega) _).setCell (p := ⟨B, 2, none⟩) (show w.heap.size ≤ B by omega) _⟩
      rw [hW3]
      clear hW3 F0 F1 F2 bR c0 c2 z0 z2
      have hone := arrF_one 18 (msr v (t.size : Int))
      have hi := hiArr (msr v (t.size : Int))
      have hsz : (arrF 18 (fun _ => 0)).size = (arrF 18 (msr v (t.size : Int))).size := by rw [arrF_size, arrF_size]
      obtain ⟨M, hM⟩ : ∃ M, arrF 18 (msr v (t.size : Int)) = M := ⟨_, rfl⟩
      rw [hM] at G2 hone hi hsz
      have HM := Lib.hid hM
      clear hM
      go_wp2_with (first
        | (refine wpList_load_row rfl 73 _ rfl B rfl _ _ _ _ G2.out Try.underlying73 rfl hi ?_)
        | (refine wpList_store_row rfl 73 _ _ rfl (w.heap.size + 1) M rfl rfl 73 _ G1.out hi hsz hone ?_))
      refine bodyPost_ret (v := .agg M) ?_ rfl ?_
      · exact results_cell_row rfl _ _ (w.heap.size + 1) 73 _ (0, 0) _ rfl (setRow_heap W3 (w.heap.size + 1) _ _ 73 (0, 0) G1.out) Try.underlying73 rfl hi
      · exact ⟨by rw [HM.out], below_setRow' b3 _ _ (by omega)⟩

end Go.Proofs.Ytngkfopdlkddnaa
namespace Go.Proofs.Ytngkfopdlkddnaa
open Go.RowKit
theorem MapAt.keep {w w' : World} {b : Nat} {l : List (Nat × Int × Int)} (h : MapAt w b l) (hb : Hl w w') : MapAt w' b l := by
  obtain ⟨es, c, h1, h2⟩ := h
  exact ⟨es, c, hb.row h1, h2⟩
theorem InR_succ (v : Nat → Int) (n : Int) (k : Nat) : InR v n (k + 1) ↔ InR v n k ∧ inB (msr v n k) (rgOf (rgL (v 0)) k).1 (rgOf (rgL (v 0)) k).2 = true := by
  unfold InR inB
  rw [decide_eq_true_eq]
  constructor
  · intro h; exact ⟨fun i hi => h i (by omega), h k (by omega)⟩
  · rintro ⟨h1, h2⟩ i hi
    by_cases e : i = k
    · subst e; exact h2
    · exact h1 i (by omega)
theorem holds_eq (a b n : Int) (c : Bool) (h : inB n a b = c) (w : World) : Calls Try.prog 31 #[.agg #[.int .i64 a, .int .i64 b], .int .i64 n] w fun e W' => e = .returned (.bool c) ∧ Below w.heap.size w W' := h ▸ holds_calls a b n w
theorem hiSpan2 (a b : Int) : (Try.prog.info? 71).map (·.size) = some (#[.int .i64 a, .int .i64 b] : Array Value).size := hiSpan
set_option maxRecDepth 100000 in
set_option maxHeartbeats 4000000 in
theorem Valid_calls (v : Nat → Int) (t : ByteArray) (w : World) : Calls Try.prog 14 #[.agg (factC v t)] w fun e W' => e = .returned (.bool (okT v t)) ∧ Below w.heap.size w W' := by
  by_cases hk : Known (v 0)
  · by_cases hv : inB (v 2) 1 1000 = true
    · have HO : Hid (∀ b : Bool, (InR v (t.size : Int) 18 → b = decide (v 0 = 3 → v 11 < v 12)) → (¬ InR v (t.size : Int) 18 → b = false) → b = okT v t) := Lib.hid (by
        intro b h1 h2
        unfold inB at hv
        rw [decide_eq_true_eq] at hv
        unfold okT okB okF
        by_cases hI : InR v (t.size : Int) 18
        · rw [h1 hI]; exact decide_eq_decide.2 ⟨fun h => ⟨hk, hv, hI, h⟩, fun h => h.2.2.2⟩
        · rw [h2 hI]; exact (decide_eq_false fun h => hI h.2.2.1).symm)
      have HL := Lib.hid (fun W => limits_calls (v 0) W hk)
      have HM := Lib.hid (fun W => measures_calls v t W)
      have HV := Lib.hid hv
      clear hk hv
      go_enter Try.func14, Try.ntmps14
      go_upto_region 1 with (fail)
      obtain ⟨W0, hW0, f0, b0⟩ := one_row w (factC v t) 29
      rw [hW0]
      clear hW0
      have c0 : W0.cell? ⟨w.heap.size, 0, none⟩ = some (.int .i64 (v 0)) := (row18 f0).1
      have F0 := Lib.hid f0
      have B0 := Lib.hid b0
      clear f0 b0
      go_wp2_with fail
      refine (HL.out _).mono ?_
      rintro e W1 ⟨rfl, b1, m1⟩
      have F1 := Lib.hid (Hl.row b1 F0.out)
      have M1 := Lib.hid m1
      have B1 := Lib.hid (B0.out.trans (b1.mono B0.out.size))
      clear m1 b1 c0 F0 B0
      generalize W0.heap.size + 5 = M at *
      go_upto_region 3 with (fail)
      obtain ⟨W2, hW2, F2, M2, S2, B2⟩ : ∃ W2, W1.alloc (.cells #[.int .i64 1, .int .i64 1000] 71) = W2 ∧ Hid (W2.heap[w.heap.size]? = some (.cells (factC v t) 29 (0, 0))) ∧ Hid (MapAt W2 M (rgL (v 0))) ∧ Hid (W2.heap[W1.heap.size]? = some (.cells #[.int .i64 1, .int .i64 1000] 71 (0, 0))) ∧ Hid (Below w.heap.size w W2) :=
        ⟨_, rfl, Lib.hid (row_aft _ _ _ _ F1.out), Lib.hid (M1.out.keep ((Below.refl _ _).alloc (Nat.le_refl _) _)), Lib.hid (heap_new W1 _), Lib.hid (B1.out.alloc B1.out.size _)⟩
      rw [hW2]
      clear hW2 F1 M1 B1
      have c2 : W2.cell? ⟨w.heap.size, 2, none⟩ = some (.int .i64 (v 2)) := (row18 F2.out).2.2.1
      have hnil := fun W => run_eql_map_nil W 68 _ _ (some M) uMap
      have s0 : W2.cell? ⟨W1.heap.size, 0, none⟩ = some (.int .i64 1) := by rw [cell_of_row _ _ _ _ _ _ S2.out]; rfl
      have s1 : W2.cell? ⟨W1.heap.size, 1, none⟩ = some (.int .i64 1000) := by rw [cell_of_row _ _ _ _ _ _ S2.out]; rfl
      go_wp2_with fail
      refine (holds_eq 1 1000 (v 2) true HV.out _).mono ?_
      rintro e W3 ⟨rfl, b3⟩
      have F3 := Lib.hid (Hl.row b3 F2.out)
      have M3 := Lib.hid (M2.out.keep b3)
      have B3 := Lib.hid (B2.out.trans (b3.mono B2.out.size))
      clear b3 F2 M2 B2 S2 s0 s1 c2 hnil
      generalize W1.heap.size = X at *
      go_wp2_with (refine wpList_load_row rfl 29 _ rfl w.heap.size rfl _ _ _ _ F3.out Try.underlying29 rfl (hiC _ _) ?_)
      refine (HM.out _).mono ?_
      rintro e W4 ⟨rfl, b4⟩
      have F4 := Lib.hid (Hl.row b4 F3.out)
      have M4 := Lib.hid (M3.out.keep b4)
      have B4 := Lib.hid (B3.out.trans (b4.mono B3.out.size))
      clear b4 F3 M3 B3
      generalize (t.size : Int) = n at *
      go_wp2_with fail
      go_loopw [22] (fun kv wr => ∃ k : Nat, k ≤ 18 ∧ kv = .int .i64 k ∧ Hid (InR v n k) ∧ Hid (wr.heap[w.heap.size]? = some (.cells (factC v t) 29 (0, 0))) ∧ Hid (MapAt wr M (rgL (v 0))) ∧ Hid (Below w.heap.size w wr)) (fun kv _ => 18 - (intOf kv).toNat)
      case atStart => exact ⟨0, by omega, rfl, Lib.hid (fun i hi => absurd hi (by omega)), F4, M4, B4⟩
      case round =>
        obtain ⟨k, hk, rfl, HI, F5, M5, B5⟩ := hrel
        clear F4 M4 B4
        by_cases hlt : k < 18
        · have hix := fun W => arr18_at (msr v n) k hlt W
          have hlook := run_look wr M (rgL (v 0)) k M5.out
          have HS := Lib.hid (InR_succ v n k)
          generalize (rgOf (rgL (v 0)) k).1 = lo at *
          generalize (rgOf (rgL (v 0)) k).2 = hi at *
          generalize msr v n k = x at *
          rcases hc : inB x lo hi with _ | _
          · have HC := Lib.hid hc
            clear hc
            go_wp2_with fail
            refine (holds_eq lo hi x false HC.out _).mono ?_
            rintro e W6 ⟨rfl, b6⟩
            go_wp2_with fail
            go_ret
            have hno : ¬ InR v n 18 := fun h => by
              have h1 : InR v n (k + 1) := fun i hi => h i (by omega)
              have h2 := (HS.out.1 h1).2
              rw [HC.out] at h2
              cases h2
            exact ⟨by rw [← HO.out false (fun h => absurd h hno) (fun _ => rfl)]; rfl, B5.out.trans (b6.mono B5.out.size)⟩
          · have HC := Lib.hid hc
            clear hc
            go_wp2_with fail
            refine (holds_eq lo hi x true HC.out _).mono ?_
            rintro e W6 ⟨rfl, b6⟩
            have F6 := Lib.hid (Hl.row b6 F5.out)
            have M6 := Lib.hid (M5.out.keep b6)
            have B6 := Lib.hid (B5.out.trans (b6.mono B5.out.size))
            clear b6 F5 M5 B5 hlook
            go_wp2_with fail
            go_roundw
            case rel => exact ⟨k + 1, by omega, by go_num, Lib.hid (HS.out.2 ⟨HI.out, HC.out⟩), F6, M6, B6⟩
            case measure => simp [intOf]; omega
        · obtain rfl : k = 18 := by omega
          rw [show ((18 : Nat) : Int) = 18 from rfl]
          obtain ⟨d0, -, -, -, -, -, -, -, -, -, -, d11, d12, -⟩ := row18 F5.out
          by_cases h3 : v 0 = 3
          · have HE := Lib.hid (HO.out (decide (v 11 < v 12)) (fun _ => decide_eq_decide.2 ⟨fun h _ => h, fun h => h h3⟩) (fun h => absurd HI.out h))
            have hb : (v 0 != 3) = false := by rw [h3]; rfl
            have H3 := Lib.hid h3
            clear h3
            generalize v 0 = k0 at *
            generalize v 11 = k11 at *
            generalize v 12 = k12 at *
            go_wp2_with fail
            go_ret
            exact ⟨by rw [← HE.out]; rfl, B5.out⟩
          · have HE := Lib.hid (HO.out true (fun _ => (decide_eq_true (fun h => absurd h h3)).symm) (fun h => absurd HI.out h))
            have hb : (v 0 != 3) = true := by simpa using h3
            clear h3
            generalize v 0 = k0 at *
            go_wp2_with fail
            go_ret
            exact ⟨by rw [← HE.out]; rfl, B5.out⟩
    · have HE : Hid (okT v t = false) := Lib.hid (decide_eq_false fun h => hv (decide_eq_true h.2.1))
      have HL := Lib.hid (fun W => limits_calls (v 0) W hk)
      have HV := Lib.hid (show inB (v 2) 1 1000 = false by simpa using hv)
      clear hk hv
      go_enter Try.func14, Try.ntmps14
      go_upto_region 1 with (fail)
      obtain ⟨W0, hW0, f0, b0⟩ := one_row w (factC v t) 29
      rw [hW0]
      clear hW0
      have c0 : W0.cell? ⟨w.heap.size, 0, none⟩ = some (.int .i64 (v 0)) := (row18 f0).1
      have F0 := Lib.hid f0
      have B0 := Lib.hid b0
      clear f0 b0
      go_wp2_with fail
      refine (HL.out _).mono ?_
      rintro e W1 ⟨rfl, b1, m1⟩
      have F1 := Lib.hid (Hl.row b1 F0.out)
      have M1 := Lib.hid m1
      have B1 := Lib.hid (B0.out.trans (b1.mono B0.out.size))
      clear m1 b1 c0 F0 B0
      generalize W0.heap.size + 5 = M at *
      go_upto_region 3 with (fail)
      obtain ⟨W2, hW2, F2, M2, S2, B2⟩ : ∃ W2, W1.alloc (.cells #[.int .i64 1, .int .i64 1000] 71) = W2 ∧ Hid (W2.heap[w.heap.size]? = some (.cells (factC v t) 29 (0, 0))) ∧ Hid (MapAt W2 M (rgL (v 0))) ∧ Hid (W2.heap[W1.heap.size]? = some (.cells #[.int .i64 1, .int .i64 1000] 71 (0, 0))) ∧ Hid (Below w.heap.size w W2) :=
        ⟨_, rfl, Lib.hid (row_aft _ _ _ _ F1.out), Lib.hid (M1.out.keep ((Below.refl _ _).alloc (Nat.le_refl _) _)), Lib.hid (heap_new W1 _), Lib.hid (B1.out.alloc B1.out.size _)⟩
      rw [hW2]
      clear hW2 F1 M1 B1
      have c2 : W2.cell? ⟨w.heap.size, 2, none⟩ = some (.int .i64 (v 2)) := (row18 F2.out).2.2.1
      have hnil := fun W => run_eql_map_nil W 68 _ _ (some M) uMap
      have s0 : W2.cell? ⟨W1.heap.size, 0, none⟩ = some (.int .i64 1) := by rw [cell_of_row _ _ _ _ _ _ S2.out]; rfl
      have s1 : W2.cell? ⟨W1.heap.size, 1, none⟩ = some (.int .i64 1000) := by rw [cell_of_row _ _ _ _ _ _ S2.out]; rfl
      go_wp2_with fail
      refine (holds_eq 1 1000 (v 2) false HV.out _).mono ?_
      rintro e W3 ⟨rfl, b3⟩
      go_wp2_with fail
      go_ret
      exact ⟨by rw [HE.out]; rfl, B2.out.trans (b3.mono B2.out.size)⟩
  · have HE : Hid (okT v t = false) := Lib.hid (decide_eq_false fun h => hk h.1)
    have HL := Lib.hid (fun W => limits_not (v 0) W hk)
    clear hk
    go_enter Try.func14, Try.ntmps14
    go_upto_region 1 with (fail)
    obtain ⟨W0, hW0, f0, b0⟩ := one_row w (factC v t) 29
    rw [hW0]
    clear hW0
    have c0 : W0.cell? ⟨w.heap.size, 0, none⟩ = some (.int .i64 (v 0)) := (row18 f0).1
    have F0 := Lib.hid f0
    have B0 := Lib.hid b0
    clear f0 b0
    go_wp2_with fail
    refine (HL.out _).mono ?_
    rintro e W1 ⟨rfl, b1⟩
    have B1 := Lib.hid (B0.out.trans (b1.mono B0.out.size))
    clear b1 c0 F0 B0
    have hnil := fun W => run_eql_map_nil W 68 _ _ none uMap
    go_wp2_with fail
    go_ret
    exact ⟨by rw [HE.out]; rfl, B1.out.trans ((Below.refl _ _).alloc B1.out.size _ |>.mono (by omega))⟩

end Go.Proofs.Ytngkfopdlkddnaa
