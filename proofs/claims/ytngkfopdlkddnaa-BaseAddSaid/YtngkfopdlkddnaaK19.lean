/- Contracts of the comparison of base's keys. | Contract of base.ascending's comparison. | Contract of slices.SortFunc at base's keys. -/
import Derived.Test.YtngkfopdlkddnaaK18
import Derived.StillTailTactics
namespace Go.Proofs.Ytngkfopdlkddnaa
open Go Go.RowKit Go.Sort
theorem cmpI_calls (x y : Int) (w : World) : Calls Try.prog 69 #[.int .i64 x, .int .i64 y] w fun e w' => e = .returned (.int .i64 (Lib.compareInt x y)) ∧ w' = w := by
  by_cases h1 : x < y
  · have HE := Lib.hid (show Lib.compareInt x y = -1 from by unfold Lib.compareInt; rw [if_pos h1])
    go_enter Try.func69, Try.ntmps69
    go_wp2
    go_ret
    exact ⟨by rw [HE.out]; rfl, rfl⟩
  · by_cases h2 : y < x
    · have HE := Lib.hid (show Lib.compareInt x y = 1 from by unfold Lib.compareInt; rw [if_neg h1, if_pos h2])
      have k1 : decide (x < y) = false := decide_eq_false h1
      clear h1
      go_enter Try.func69, Try.ntmps69
      go_wp2
      go_ret
      exact ⟨by rw [HE.out]; rfl, rfl⟩
    · have HE := Lib.hid (show Lib.compareInt x y = 0 from by unfold Lib.compareInt; rw [if_neg h1, if_neg h2])
      have k1 : decide (x < y) = false := decide_eq_false h1
      have k2 : decide (y < x) = false := decide_eq_false h2
      clear h1 h2
      go_enter Try.func69, Try.ntmps69
      go_wp2
      go_ret
      exact ⟨by rw [HE.out]; rfl, rfl⟩
/-- The first that is not 0. -/
def orF (a b : Int) : Int := if a = 0 then b else a
theorem cmp_neg (x y : Int) : (Lib.compareInt x y < 0 ↔ x < y) ∧ (Lib.compareInt x y = 0 ↔ x = y) := by
  unfold Lib.compareInt
  by_cases h1 : x < y
  · rw [if_pos h1]; omega
  · rw [if_neg h1]
    by_cases h2 : x > y
    · rw [if_pos h2]; omega
    · rw [if_neg h2]; omega
def cmpK (x y : K3) : Int := orF (Lib.compareInt x.1 y.1) (orF (Lib.compareInt x.2.1 y.2.1) (Lib.compareInt x.2.2 y.2.2))
theorem ltOfK (x y : K3) : ltOf cmpK x y = ltK x y := by
  unfold ltOf cmpK orF ltK
  have h1 := cmp_neg x.1 y.1
  have h2 := cmp_neg x.2.1 y.2.1
  have h3 := cmp_neg x.2.2 y.2.2
  rw [Bool.eq_iff_iff, decide_eq_true_iff, decide_eq_true_iff]
  by_cases e1 : Lib.compareInt x.1 y.1 = 0
  · rw [if_pos e1]
    by_cases e2 : Lib.compareInt x.2.1 y.2.1 = 0
    · rw [if_pos e2]; omega
    · rw [if_neg e2]; omega
  · rw [if_neg e1]; omega
theorem swoK : SWO (ltOf cmpK) where
  irrefl x := by rw [ltOfK]; unfold ltK; rw [decide_eq_false_iff_not]; omega
  trans x y z h1 h2 := by rw [ltOfK] at *; unfold ltK at *; rw [decide_eq_true_iff] at *; omega
  ntrans x y z h1 h2 := by rw [ltOfK] at *; unfold ltK at *; rw [decide_eq_false_iff_not] at *; omega
set_option maxHeartbeats 4000000 in
theorem compare3_calls (g o c g' o' c' : Nat) (x y : K3) (w : World)
    (a0 : w.cell? ⟨g, o, none⟩ = some (.int .i64 x.1)) (a1 : w.cell? ⟨g, o + 1, none⟩ = some (.int .i64 x.2.1)) (a2 : w.cell? ⟨g, o + 2, none⟩ = some (.int .i64 x.2.2))
    (b0 : w.cell? ⟨g', o', none⟩ = some (.int .i64 y.1)) (b1 : w.cell? ⟨g', o' + 1, none⟩ = some (.int .i64 y.2.1)) (b2 : w.cell? ⟨g', o' + 2, none⟩ = some (.int .i64 y.2.2)) :
    Calls Try.prog 50 #[.slice (some ⟨g, o, none⟩) 3 c, .slice (some ⟨g', o', none⟩) 3 c'] w fun e w' => e = .returned (.int .i64 (cmpK x y)) ∧ w' = w := by
  obtain ⟨x0, x1, x2⟩ := x
  obtain ⟨y0, y1, y2⟩ := y
  dsimp only at a0 a1 a2 b0 b1 b2
  unfold cmpK
  dsimp only
  have H0 := cmpI_calls x0 y0 w
  have H1 := cmpI_calls x1 y1 w
  have H2 := cmpI_calls x2 y2 w
  generalize Lib.compareInt x0 y0 = r0 at *
  generalize Lib.compareInt x1 y1 = r1 at *
  generalize Lib.compareInt x2 y2 = r2 at *
  have K0 := Lib.hid H0
  have K1 := Lib.hid H1
  have K2 := Lib.hid H2
  clear H0 H1 H2
  go_enter Try.func50, Try.ntmps50
  go_wp2_with fail
  go_loop [11] (fun iv => ∃ k : Nat, k ≤ 3 ∧ iv = .int .i64 (k : Int) ∧ (1 ≤ k → r0 = 0) ∧ (2 ≤ k → r1 = 0) ∧ (3 ≤ k → r2 = 0)) (fun iv => 3 - (intOf iv).toNat)
  case atStart => exact ⟨0, by omega, rfl, fun h => by omega, fun h => by omega, fun h => by omega⟩
  case round =>
    obtain ⟨k, hk, rfl, h0, h1, h2⟩ := hrel
    have hk3 : k = 0 ∨ k = 1 ∨ k = 2 ∨ k = 3 := by omega
    rcases hk3 with rfl | rfl | rfl | rfl
    · by_cases e : r0 = 0
      · have HE := Lib.hid e
        have k1 : (r0 != 0) = false := by simpa using e
        clear h0 h1 h2 e
        go_wp2_with fail
        refine K0.out.mono ?_
        rintro e w' ⟨rfl, rfl⟩
        go_wp2_with fail
        go_round
        case rel => exact ⟨1, by omega, rfl, fun _ => HE.out, fun h => by omega, fun h => by omega⟩
        case measure => simp [intOf]
      · have HE := Lib.hid (show orF r0 (orF r1 r2) = r0 from by unfold orF; rw [if_neg e])
        have k1 : (r0 != 0) = true := by simpa using e
        clear h0 h1 h2
        go_wp2_with fail
        refine K0.out.mono ?_
        rintro e w' ⟨rfl, rfl⟩
        go_wp2_with fail
        go_ret
        exact ⟨by rw [HE.out]; rfl, rfl⟩
    · have z0 := h0 (by omega)
      by_cases e : r1 = 0
      · have HE := Lib.hid z0
        have HE1 := Lib.hid e
        have k1 : (r1 != 0) = false := by simpa using e
        clear h0 h1 h2 e z0
        go_wp2_with fail
        refine K1.out.mono ?_
        rintro e w' ⟨rfl, rfl⟩
        go_wp2_with fail
        go_round
        case rel => exact ⟨2, by omega, rfl, fun _ => HE.out, fun _ => HE1.out, fun h => by omega⟩
        case measure => simp [intOf]
      · have HE := Lib.hid (show orF r0 (orF r1 r2) = r1 from by unfold orF; rw [if_pos z0, if_neg e])
        have k1 : (r1 != 0) = true := by simpa using e
        clear h0 h1 h2 z0
        go_wp2_with fail
        refine K1.out.mono ?_
        rintro e w' ⟨rfl, rfl⟩
        go_wp2_with fail
        go_ret
        exact ⟨by rw [HE.out]; rfl, rfl⟩
    · have z0 := h0 (by omega)
      have z1 := h1 (by omega)
      by_cases e : r2 = 0
      · have HE := Lib.hid z0
        have HE1 := Lib.hid z1
        have HE2 := Lib.hid e
        have k1 : (r2 != 0) = false := by simpa using e
        clear h0 h1 h2 e z0 z1
        go_wp2_with fail
        refine K2.out.mono ?_
        rintro e w' ⟨rfl, rfl⟩
        go_wp2_with fail
        go_round
        case rel => exact ⟨3, by omega, rfl, fun _ => HE.out, fun _ => HE1.out, fun _ => HE2.out⟩
        case measure => simp [intOf]
      · have HE := Lib.hid (show orF r0 (orF r1 r2) = r2 from by unfold orF; rw [if_pos z0, if_pos z1])
        have k1 : (r2 != 0) = true := by simpa using e
        clear h0 h1 h2 z0 z1
        go_wp2_with fail
        refine K2.out.mono ?_
        rintro e w' ⟨rfl, rfl⟩
        go_wp2_with fail
        go_ret
        exact ⟨by rw [HE.out]; rfl, rfl⟩
    · have HE := Lib.hid (show orF r0 (orF r1 r2) = 0 from by unfold orF; rw [if_pos (h0 (by omega)), if_pos (h1 (by omega)), h2 (by omega)])
      clear h0 h1 h2
      go_wp2_with fail
      go_ret
      exact ⟨by rw [HE.out]; rfl, rfl⟩
end Go.Proofs.Ytngkfopdlkddnaa
namespace Go.Proofs.Ytngkfopdlkddnaa
open Go Go.RowKit Go.Sort
set_option maxRecDepth 20000 in
set_option maxHeartbeats 1000000 in
theorem asc1_calls (x y : K3) (W : World) : Calls Try.prog 49 #[.agg #[.int .i64 x.1, .int .i64 x.2.1, .int .i64 x.2.2], .agg #[.int .i64 y.1, .int .i64 y.2.1, .int .i64 y.2.2]] W fun e w' => e = .returned (.int .i64 (cmpK x y)) ∧ ∃ q os', w' = grow (W.drewN q) os' := by
  have HC := Lib.hid (fun (g o c g' o' c' : Nat) (w : World) a0 a1 a2 b0 b1 b2 => compare3_calls g o c g' o' c' x y w a0 a1 a2 b0 b1 b2)
  generalize cmpK x y = r at *
  obtain ⟨x0, x1, x2⟩ := x
  obtain ⟨y0, y1, y2⟩ := y
  dsimp only at HC ⊢
  go_enter Try.func49, Try.ntmps49
  go_wp2_with fail
  have hb1 : ((W.alloc (.cells #[.int .i64 x0, .int .i64 x1, .int .i64 x2] 41)).alloc (.cells #[.int .i64 y0, .int .i64 y1, .int .i64 y2] 41)).heap[W.heap.size]? = some (.cells #[.int .i64 x0, .int .i64 x1, .int .i64 x2] 41) := by
    rw [Below.heap_alloc _ _ _ (by simp), heap_alloc_new]
  have hb2 : ((W.alloc (.cells #[.int .i64 x0, .int .i64 x1, .int .i64 x2] 41)).alloc (.cells #[.int .i64 y0, .int .i64 y1, .int .i64 y2] 41)).heap[W.heap.size + 1]? = some (.cells #[.int .i64 y0, .int .i64 y1, .int .i64 y2] 41) := by
    have := heap_alloc_new (W.alloc (.cells #[.int .i64 x0, .int .i64 x1, .int .i64 x2] 41)) (.cells #[.int .i64 y0, .int .i64 y1, .int .i64 y2] 41)
    rwa [World.size_alloc] at this
  obtain ⟨w2, hw2, HC2, HG⟩ : ∃ w2, (W.alloc (.cells #[.int .i64 x0, .int .i64 x1, .int .i64 x2] 41)).alloc (.cells #[.int .i64 y0, .int .i64 y1, .int .i64 y2] 41) = w2 ∧ Hid (Calls Try.prog 50 #[.slice (some ⟨W.heap.size, 0, none⟩) 3 3, .slice (some ⟨W.heap.size + 1, 0, none⟩) 3 3] w2.drew fun e w' => e = .returned (.int .i64 r) ∧ w' = w2.drew) ∧ Hid (w2 = grow W #[.cells #[.int .i64 x0, .int .i64 x1, .int .i64 x2] 41, .cells #[.int .i64 y0, .int .i64 y1, .int .i64 y2] 41]) :=
    ⟨_, rfl, Lib.hid (HC.out _ _ _ _ _ _ _ ((cell_of_row _ _ _ _ _ _ hb1).trans rfl) ((cell_of_row _ _ _ _ _ _ hb1).trans rfl) ((cell_of_row _ _ _ _ _ _ hb1).trans rfl) ((cell_of_row _ _ _ _ _ _ hb2).trans rfl) ((cell_of_row _ _ _ _ _ _ hb2).trans rfl) ((cell_of_row _ _ _ _ _ _ hb2).trans rfl)), Lib.hid (by rw [alloc_eq_grow, alloc_eq_grow, grow_grow]; rfl)⟩
  rw [hw2]
  clear hw2 hb1 hb2 HC
  refine wp_region_still_tail 3 (by kernel_rfl) (by kernel_rfl) ?_
  simp only [List.take_succ_cons, List.take_zero, List.drop_succ_cons, List.drop_zero]
  still_step
  still_step
  still_call HC2.out
  refine wpStill_nil ?_
  change wpList _ _ _ _ _ w2.drew
  go_wp2_with fail
  go_ret
  refine ⟨rfl, 1, #[.cells #[.int .i64 x0, .int .i64 x1, .int .i64 x2] 41, .cells #[.int .i64 y0, .int .i64 y1, .int .i64 y2] 41], ?_⟩
  rw [HG.out]
  rfl
theorem cmpLaysK (blk off size : Nat) (w : World) : CmpLays Try.prog 49 #[] (fun x : K3 => [.int .i64 x.1, .int .i64 x.2.1, .int .i64 x.2.2]) 3 cmpK blk off size w :=
  fun _ _ _ _ x y => asc1_calls x y _
end Go.Proofs.Ytngkfopdlkddnaa
namespace Go.Proofs.Ytngkfopdlkddnaa
open Go Go.RowKit Go.Sort
def encK (x : K3) : List Value := [.int .i64 x.1, .int .i64 x.2.1, .int .i64 x.2.2]
theorem sortK_grownBy (w : World) (g n : Nat) (d : Array K3) (os : Array Obj) : w.grownBy (sortWorldK encK 3 w g 0 n d os) (some g) := by
  unfold sortWorldK putRowK putRow
  refine ⟨rfl, rfl, rfl, ?_, ?_⟩
  · simp [grow, mapBlock, Sort.ahead]
  · intro k hk hne
    have hne2 : g ≠ k := fun e => hne (by rw [e])
    show ((w.heap.modify g _) ++ os)[k]? = w.heap[k]?
    rw [Array.getElem?_append_left (by simpa using hk), Array.getElem?_modify, if_neg hne2]
/-- The library's sort: the keys in order, in their block; else nothing that was there has changed. -/
theorem sortK_calls (g cap : Nat) (d : Array K3) (w : World) (hH : HoldsK encK 3 w g 0 d) (hg : g < w.heap.size) (hsz : d.size ≤ 281474976710656) :
    Calls Try.prog 67 #[.slice (some ⟨g, 0, none⟩) d.size cap, .func (.func 49) #[] #[]] w fun e w' =>
      e = .returned (.tuple #[]) ∧ ∃ d' : Array K3, PermIn 0 d.size d d' ∧ SortedIn (ltOf cmpK) 0 d.size d' ∧ HoldsK encK 3 w' g 0 d' ∧ w.grownBy w' (some g) := by
  have eg : ∀ args w, (callFunc 49 args).run Try.prog w = .ok (.enter 49 args) w := enters_of Try.func49 (by kernel_rfl) rfl
  have hcon := AnyQ.slices_SortFunc laysSort 3 Try.isAgg41 Try.sizeOf41 encK (fun _ => rfl) (fun x v hv => by simp [encK] at hv; rcases hv with rfl | rfl | rfl <;> rfl) cmpK swoK 49 #[] g 0 cap d w eg (cmpLaysK g 0 d.size w) hH hg (by omega)
  refine Calls.mono hcon ?_
  rintro e w' ⟨he, d', n, os, hp, hs, rfl⟩
  exact ⟨he, d', hp, hs, holdsK_sortWorldK_c encK 3 w g 0 d d' n os hH hg hp.1, sortK_grownBy w g n d' os⟩
end Go.Proofs.Ytngkfopdlkddnaa
