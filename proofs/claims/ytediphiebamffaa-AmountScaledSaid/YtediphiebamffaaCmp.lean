/- Contracts of the comparison of remainders and of the library's sort by it. -/
import Derived.Test.YtediphiebamffaaShs
import Derived.Test.YtediphiebamffaaRefAp
import Derived.StillTailTactics
namespace Go.Proofs.Ytediphiebamffaa
open Go.RowKit Go.Sort

theorem cmpU_calls (x y : Int) (w : World) : Calls Try.prog 41 #[.int .u64 x, .int .u64 y] w fun e w' => e = .returned (.int .i64 (Lib.compareInt x y)) ∧ w' = w := by
  by_cases h1 : x < y
  · have HE := Lib.hid (show Lib.compareInt x y = -1 from by unfold Lib.compareInt; rw [if_pos h1])
    go_enter Try.func41, Try.ntmps41
    go_wp2
    go_ret
    exact ⟨by rw [HE.out]; rfl, rfl⟩
  · by_cases h2 : y < x
    · have HE := Lib.hid (show Lib.compareInt x y = 1 from by unfold Lib.compareInt; rw [if_neg h1, if_pos h2])
      have k1 : decide (x < y) = false := decide_eq_false h1
      clear h1
      go_enter Try.func41, Try.ntmps41
      go_wp2
      go_ret
      exact ⟨by rw [HE.out]; rfl, rfl⟩
    · have HE := Lib.hid (show Lib.compareInt x y = 0 from by unfold Lib.compareInt; rw [if_neg h1, if_neg h2])
      have k1 : decide (x < y) = false := decide_eq_false h1
      have k2 : decide (y < x) = false := decide_eq_false h2
      clear h1 h2
      go_enter Try.func41, Try.ntmps41
      go_wp2
      go_ret
      exact ⟨by rw [HE.out]; rfl, rfl⟩
theorem cmpI_calls (x y : Int) (w : World) : Calls Try.prog 42 #[.int .i64 x, .int .i64 y] w fun e w' => e = .returned (.int .i64 (Lib.compareInt x y)) ∧ w' = w := by
  by_cases h1 : x < y
  · have HE := Lib.hid (show Lib.compareInt x y = -1 from by unfold Lib.compareInt; rw [if_pos h1])
    go_enter Try.func42, Try.ntmps42
    go_wp2
    go_ret
    exact ⟨by rw [HE.out]; rfl, rfl⟩
  · by_cases h2 : y < x
    · have HE := Lib.hid (show Lib.compareInt x y = 1 from by unfold Lib.compareInt; rw [if_neg h1, if_pos h2])
      have k1 : decide (x < y) = false := decide_eq_false h1
      clear h1
      go_enter Try.func42, Try.ntmps42
      go_wp2
      go_ret
      exact ⟨by rw [HE.out]; rfl, rfl⟩
    · have HE := Lib.hid (show Lib.compareInt x y = 0 from by unfold Lib.compareInt; rw [if_neg h1, if_neg h2])
      have k1 : decide (x < y) = false := decide_eq_false h1
      have k2 : decide (y < x) = false := decide_eq_false h2
      clear h1 h2
      go_enter Try.func42, Try.ntmps42
      go_wp2
      go_ret
      exact ⟨by rw [HE.out]; rfl, rfl⟩
/-- The first that is not 0. -/
def orF (a b : Int) : Int := if a = 0 then b else a
theorem or_calls (a b : Int) (g o c : Nat) (w : World) (h1 : w.cell? ⟨g, o, none⟩ = some (.int .i64 a)) (h2 : w.cell? ⟨g, o + 1, none⟩ = some (.int .i64 b)) :
    Calls Try.prog 40 #[.slice (some ⟨g, o, none⟩) 2 c] w fun e w' => e = .returned (.int .i64 (orF a b)) ∧ w' = w := by
  go_enter Try.func40, Try.ntmps40
  go_wp2_with fail
  go_loop [8] (fun iv => ∃ k : Nat, k ≤ 2 ∧ iv = .int .i64 (k : Int) ∧ (1 ≤ k → a = 0) ∧ (2 ≤ k → b = 0)) (fun iv => 2 - (intOf iv).toNat)
  case atStart => exact ⟨0, by omega, rfl, fun h => by omega, fun h => by omega⟩
  case round =>
    obtain ⟨k, hk, rfl, ha, hb⟩ := hrel
    have hk3 : k = 0 ∨ k = 1 ∨ k = 2 := by omega
    rcases hk3 with rfl | rfl | rfl
    · by_cases h0 : a = 0
      · have HE := Lib.hid h0
        have k1 : (a != 0) = false := by simpa using h0
        clear ha hb h0
        go_wp2_with fail
        go_round
        case rel => exact ⟨1, by omega, rfl, fun _ => HE.out, fun h => by omega⟩
        case measure => simp [intOf]
      · have HE := Lib.hid (show orF a b = a from by unfold orF; rw [if_neg h0])
        have k1 : (a != 0) = true := by simpa using h0
        clear ha hb
        go_wp2_with fail
        go_ret
        exact ⟨by rw [HE.out]; rfl, rfl⟩
    · have h0 := ha (by omega)
      by_cases h3 : b = 0
      · have HE := Lib.hid h0
        have HE2 := Lib.hid h3
        have k1 : (b != 0) = false := by simpa using h3
        clear ha hb h0 h3
        go_wp2_with fail
        go_round
        case rel => exact ⟨2, by omega, rfl, fun _ => HE.out, fun _ => HE2.out⟩
        case measure => simp [intOf]
      · have HE := Lib.hid (show orF a b = b from by unfold orF; rw [if_pos h0])
        have k1 : (b != 0) = true := by simpa using h3
        clear ha hb h0
        go_wp2_with fail
        go_ret
        exact ⟨by rw [HE.out]; rfl, rfl⟩
    · have HE := Lib.hid (show orF a b = 0 from by unfold orF; rw [if_pos (ha (by omega)), hb (by omega)])
      clear ha hb
      go_wp2_with fail
      go_ret
      exact ⟨by rw [HE.out]; rfl, rfl⟩
/-- The comparison. -/
def cmpR (x y : Nat × Nat) : Int := orF (Lib.compareInt (y.2 : Int) (x.2 : Int)) (Lib.compareInt (x.1 : Int) (y.1 : Int))
def encR (x : Nat × Nat) : List Value := [.int .i64 (x.1 : Int), .int .u64 (x.2 : Int)]
set_option maxHeartbeats 1000000 in
theorem compare_calls (x y : Nat × Nat) (W : World) : Calls Try.prog 34 #[.agg #[.int .i64 (x.1 : Int), .int .u64 (x.2 : Int)], .agg #[.int .i64 (y.1 : Int), .int .u64 (y.2 : Int)]] W fun e w' => e = .returned (.int .i64 (cmpR x y)) ∧ ∃ q os', w' = grow (W.drewN q) os' := by
  obtain ⟨x1, x2⟩ := x
  obtain ⟨y1, y2⟩ := y
  unfold cmpR
  dsimp only
  obtain ⟨A, hA⟩ : ∃ A, Lib.compareInt (y2 : Int) (x2 : Int) = A := ⟨_, rfl⟩
  obtain ⟨B, hB⟩ : ∃ B, Lib.compareInt (x1 : Int) (y1 : Int) = B := ⟨_, rfl⟩
  have hU := fun w => cmpU_calls (y2 : Int) (x2 : Int) w
  have hI := fun w => cmpI_calls (x1 : Int) (y1 : Int) w
  rw [hA] at hU ⊢
  rw [hB] at hI ⊢
  have HU := Lib.hid hU
  have HI := Lib.hid hI
  clear hA hB hU hI
  go_enter Try.func34, Try.ntmps34
  go_wp2_with fail
  have hb1 : ((W.alloc (.cells #[.int .i64 (x1 : Int), .int .u64 (x2 : Int)] 56)).alloc (.cells #[.int .i64 (y1 : Int), .int .u64 (y2 : Int)] 56)).heap[W.heap.size]? = some (.cells #[.int .i64 (x1 : Int), .int .u64 (x2 : Int)] 56) := by
    rw [Below.heap_alloc _ _ _ (by simp), heap_alloc_new]
  have hb2 : ((W.alloc (.cells #[.int .i64 (x1 : Int), .int .u64 (x2 : Int)] 56)).alloc (.cells #[.int .i64 (y1 : Int), .int .u64 (y2 : Int)] 56)).heap[W.heap.size + 1]? = some (.cells #[.int .i64 (y1 : Int), .int .u64 (y2 : Int)] 56) := by
    have := heap_alloc_new (W.alloc (.cells #[.int .i64 (x1 : Int), .int .u64 (x2 : Int)] 56)) (.cells #[.int .i64 (y1 : Int), .int .u64 (y2 : Int)] 56)
    rwa [World.size_alloc] at this
  obtain ⟨w2, hw2, c1, c2, c3, c4, HG⟩ : ∃ w2, (W.alloc (.cells #[.int .i64 (x1 : Int), .int .u64 (x2 : Int)] 56)).alloc (.cells #[.int .i64 (y1 : Int), .int .u64 (y2 : Int)] 56) = w2 ∧ w2.cell? ⟨W.heap.size, 0, none⟩ = some (.int .i64 (x1 : Int)) ∧ w2.cell? ⟨W.heap.size, 1, none⟩ = some (.int .u64 (x2 : Int)) ∧ w2.cell? ⟨W.heap.size + 1, 0, none⟩ = some (.int .i64 (y1 : Int)) ∧ w2.cell? ⟨W.heap.size + 1, 1, none⟩ = some (.int .u64 (y2 : Int)) ∧ Hid (w2 = grow W #[.cells #[.int .i64 (x1 : Int), .int .u64 (x2 : Int)] 56, .cells #[.int .i64 (y1 : Int), .int .u64 (y2 : Int)] 56]) :=
    ⟨_, rfl, by rw [cell_of_row _ _ _ _ _ _ hb1]; rfl, by rw [cell_of_row _ _ _ _ _ _ hb1]; rfl, by rw [cell_of_row _ _ _ _ _ _ hb2]; rfl, by rw [cell_of_row _ _ _ _ _ _ hb2]; rfl, Lib.hid (by rw [alloc_eq_grow, alloc_eq_grow, grow_grow]; rfl)⟩
  rw [hw2]
  clear hw2 hb1 hb2
  refine wp_region_still_tail 10 (by kernel_rfl) (by kernel_rfl) ?_
  simp only [List.take_succ_cons, List.take_zero, List.drop_succ_cons, List.drop_zero]
  still_step
  still_step
  still_step
  still_step
  still_call (HU.out _)
  still_step
  still_step
  still_step
  still_step
  still_call (HI.out _)
  refine wpStill_nil ?_
  change wpList _ _ _ _ _ w2.drew
  obtain ⟨w3, hw3⟩ : ∃ w3, w2.drew = w3 := ⟨_, rfl⟩
  rw [hw3]
  have HW3 := Lib.hid hw3
  clear hw3 c1 c2 c3 c4
  go_wp2_with fail
  refine (or_calls A B w3.heap.size 0 2 _ ?_ ?_).mono ?_
  · rw [cell_of_row _ _ _ _ _ _ (heap_alloc_new w3 _)]; rfl
  · rw [cell_of_row _ _ _ _ _ _ (heap_alloc_new w3 _)]; rfl
  rintro e w' ⟨rfl, rfl⟩
  go_wp2_with fail
  go_ret
  refine ⟨rfl, 1, #[.cells #[.int .i64 (x1 : Int), .int .u64 (x2 : Int)] 56, .cells #[.int .i64 (y1 : Int), .int .u64 (y2 : Int)] 56] ++ #[.cells #[.int .i64 A, .int .i64 B] 3], ?_⟩
  rw [← HW3.out, HG.out, alloc_eq_grow, ← grow_grow]
  rfl

theorem cmp_neg (x y : Int) : (Lib.compareInt x y < 0 ↔ x < y) ∧ (Lib.compareInt x y = 0 ↔ x = y) := by
  unfold Lib.compareInt
  by_cases h1 : x < y
  · rw [if_pos h1]; omega
  · rw [if_neg h1]
    by_cases h2 : x > y
    · rw [if_pos h2]; omega
    · rw [if_neg h2]; omega
theorem ltR (x y : Nat × Nat) : ltOf cmpR x y = decide (y.2 < x.2 ∨ (x.2 = y.2 ∧ x.1 < y.1)) := by
  unfold ltOf cmpR orF
  have h1 := cmp_neg (y.2 : Int) (x.2 : Int)
  have h2 := cmp_neg (x.1 : Int) (y.1 : Int)
  rw [Bool.eq_iff_iff, decide_eq_true_iff, decide_eq_true_iff]
  by_cases h : Lib.compareInt (y.2 : Int) (x.2 : Int) = 0
  · rw [if_pos h]; omega
  · rw [if_neg h]; omega
theorem swoR : SWO (ltOf cmpR) where
  irrefl x := by rw [ltR]; simp
  trans x y z h1 h2 := by rw [ltR] at *; simp only [decide_eq_true_eq] at *; omega
  ntrans x y z h1 h2 := by rw [ltR] at *; simp only [decide_eq_false_iff_not] at *; omega
theorem cmpLaysR (blk off size : Nat) (w : World) : CmpLays Try.prog 34 #[] encR 2 cmpR blk off size w :=
  fun _ _ _ _ x y => compare_calls x y _
theorem sort_grownBy (w : World) (g n : Nat) (d : Array (Nat × Nat)) (os : Array Obj) : w.grownBy (sortWorldK encR 2 w g 0 n d os) (some g) := by
  unfold sortWorldK putRowK putRow
  refine ⟨rfl, rfl, rfl, ?_, ?_⟩
  · simp [grow, mapBlock, Sort.ahead]
  · intro k hk hne
    have hne2 : g ≠ k := fun e => hne (by rw [e])
    show ((w.heap.modify g _) ++ os)[k]? = w.heap[k]?
    rw [Array.getElem?_append_left (by simpa using hk), Array.getElem?_modify, if_neg hne2]
/-- The library's sort by the comparison: the remainders in order, in their block; else nothing that was there has changed. -/
theorem sort_calls (g cap : Nat) (d : Array (Nat × Nat)) (w : World) (hH : HoldsK encR 2 w g 0 d) (hg : g < w.heap.size) (hsz : d.size ≤ 1000000) :
    Calls Try.prog 33 #[.slice (some ⟨g, 0, none⟩) d.size cap, .func (.func 34) #[] #[]] w fun e w' =>
      e = .returned (.tuple #[]) ∧ ∃ d' : Array (Nat × Nat), PermIn 0 d.size d d' ∧ SortedIn (ltOf cmpR) 0 d.size d' ∧ HoldsK encR 2 w' g 0 d' ∧ w.grownBy w' (some g) := by
  have eg : ∀ args w, (callFunc 34 args).run Try.prog w = .ok (.enter 34 args) w := enters_of Try.func34 (by kernel_rfl) rfl
  have hcon := AnyQ.slices_SortFunc laysSort 2 Try.isAgg56 Try.sizeOf56 encR (fun _ => rfl) (fun x v hv => by simp [encR] at hv; rcases hv with rfl | rfl <;> rfl) cmpR swoR 34 #[] g 0 cap d w eg (cmpLaysR g 0 d.size w) hH hg (by omega)
  refine Calls.mono hcon ?_
  rintro e w' ⟨he, d', n, os, hp, hs, rfl⟩
  exact ⟨he, d', hp, hs, holdsK_sortWorldK_c encR 2 w g 0 d d' n os hH hg hp.1, sort_grownBy w g n d' os⟩
end Go.Proofs.Ytediphiebamffaa
