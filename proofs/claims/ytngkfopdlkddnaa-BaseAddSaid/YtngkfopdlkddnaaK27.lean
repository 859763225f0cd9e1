/- The contract of base.adders: a map of its own from each kind to a closure that holds the address of that kind's list. -/
import Derived.Test.YtngkfopdlkddnaaK26
import Derived.Test.YtngkfopdlkddnaaK22
import Derived.Maps.RangeWalk
namespace Go.Proofs.Ytngkfopdlkddnaa
open Go Go.RowKit Go.Maps
theorem lawM : Keyed Try.prog 3 := lawI
theorem KindMap.congr {D : DataW Value} {S : Nat → Prop} {f g : Nat → Value} (h : KindMap D S f) (hfg : ∀ k, 1 ≤ k → k ≤ 10 → S k → f k = g k) : KindMap D S g :=
  ⟨h.1, fun k h1 h2 => ⟨(h.2.1 k h1 h2).1, fun hs => ⟨((h.2.1 k h1 h2).2 hs).1, fun z => by rw [← hfg k h1 h2 hs]; exact ((h.2.1 k h1 h2).2 hs).2 z⟩⟩, h.2.2⟩
/-- Boxes that hold the addresses of the lists. -/
def BoxesAt (w : World) (lo p : Nat) (S : Nat → Prop) (bx : Nat → Nat) : Prop := ∀ k, 1 ≤ k → k ≤ 10 → S k → lo ≤ bx k ∧ w.cell? ⟨bx k, 0, none⟩ = some (fieldP p k)
def fnP (bx : Nat → Nat) (k : Nat) : Value := .func (.func 45) #[] #[.pointer (some ⟨bx k, 0, none⟩)]
theorem BoxesAt.grown {w w' : World} {lo p : Nat} {S : Nat → Prop} {bx : Nat → Nat} {row : Option Nat} (h : BoxesAt w lo p S bx) (hg : w.grownBy w' row) (hr : ∀ j, row = some j → j < lo) : BoxesAt w' lo p S bx := fun k h1 h2 hs => by
  obtain ⟨a, b⟩ := h k h1 h2 hs
  refine ⟨a, hg.cell b (fun e => ?_)⟩
  have := hr (bx k) e.symm
  omega
theorem BoxesAt.below {w w' : World} {lo p : Nat} {S : Nat → Prop} {bx : Nat → Nat} (h : BoxesAt w lo p S bx) (hb : Below w.heap.size w w') : BoxesAt w' lo p S bx := fun k h1 h2 hs => by
  obtain ⟨a, b⟩ := h k h1 h2 hs
  exact ⟨a, (hb.cell (p := ⟨bx k, 0, none⟩) (lt_of_cell b)).trans b⟩
theorem BoxesAt.more {w : World} {lo p : Nat} {S T : Nat → Prop} {bx : Nat → Nat} (h : BoxesAt w lo p S bx) {k b : Nat} (hb : lo ≤ b) (hc : w.cell? ⟨b, 0, none⟩ = some (fieldP p k)) (hT : ∀ j, T j → j = k ∨ S j) : BoxesAt w lo p T (fun j => if j = k then b else bx j) := fun j h1 h2 hs => by
  by_cases e : j = k
  · subst e; simp only [if_true]; exact ⟨hb, hc⟩
  · simp only [if_neg e]; exact h j h1 h2 ((hT j hs).resolve_left e)
theorem kind_of {D : DataW Value} {f : Nat → Value} (h : KindMap D (fun _ => True) f) {kl : Lit} {v : Value} {y : DataW Value × List MemPlace} (hv : valR v = some y) (hat : ∀ zd, D.atKey kl zd = y.1) : ∃ k, 1 ≤ k ∧ k ≤ 10 ∧ kl = lk k ∧ v = f k := by
  have hh := has_true_of_atKey hat
  by_cases hk : ∀ k, 1 ≤ k → k ≤ 10 → kl ≠ lk k
  · rw [h.2.2 kl hk] at hh; cases hh
  · simp only [Classical.not_forall] at hk
    obtain ⟨k, h1, h2, h3⟩ := hk
    have h3 : kl = lk k := Classical.not_not.1 h3
    refine ⟨k, h1, h2, h3, ?_⟩
    have e := ((h.2.1 k h1 h2).2 trivial).2 (.map [])
    rw [← h3, hat] at e
    unfold valR at hv
    cases hv
    simpa using e
theorem same_lk (j k : Nat) : (lk j).sameKey (lk k) = decide (j = k) := by
  by_cases e : j = k
  · subst e
    rw [decide_eq_true rfl]
    unfold lk Lit.sameKey
    simp
  · rw [decide_eq_false e]
    cases h : (lk j).sameKey (lk k) with
    | false => rfl
    | true => exact absurd (lk_inj (WideAt.sameKey_eq h)) e
theorem own_below {H : Type} {P : Program} {k : TypeId} {R : Value → Option (DataW H × List MemPlace)} {w w' : World} {b n : Nat} {D : DataW H} (h : w.ownsMap P k R b n D) (hb : Below w.heap.size w w') : w'.ownsMap P k R b n D :=
  World.ownsMap.kept h ⟨hb.os, hb.tape, hb.output, hb.size, fun i hi _ => hb.block i hi⟩ (row := none) (by simp)
theorem size_le {H : Type} {P : Program} {k : TypeId} {R : Value → Option (DataW H × List MemPlace)} {w : World} {b n : Nat} {D : DataW H} (h : w.ownsMap P k R b n D) : Maps.size D ≤ n := by
  obtain ⟨es, clock, hb, F, h5, rfl⟩ := h
  rw [Maps.size_eq, length_sorted, List.length_map]
  simpa using h5
set_option maxRecDepth 100000 in
set_option maxHeartbeats 2000000 in
theorem adders_calls (p : Nat) (w : World) : Calls Try.prog 26 #[.pointer (some ⟨p, 0, none⟩)] w fun e W' =>
    ∃ m bx, e = .returned (.map (some m)) ∧ KindsAt W' m (fnP bx) ∧ BoxesAt W' w.heap.size p (fun _ => True) bx ∧ w.heap.size ≤ m ∧ Below w.heap.size w W' := by
  have hmm := @run_makeMap Try.prog
  have HL := Lib.hid (fun W => lists_calls p W)
  go_enter Try.func26, Try.ntmps26
  go_upto_region 2 with (fail)
  obtain ⟨W0, hW0, hM0, hal, hz0⟩ : ∃ W0, w.alloc (.map #[] 0) = W0 ∧ W0.ownsMap Try.prog 3 valR w.heap.size 0 (.map []) ∧ Below w.heap.size w W0 ∧ W0.heap.size = w.heap.size + 1 := ⟨_, rfl, World.ownsMap_made _ _ _ _, (Below.refl _ w).alloc (Nat.le_refl _) _, by simp⟩
  rw [hW0]
  clear hW0
  have HM0 := Lib.hid hM0
  have HB0 := Lib.hid hal
  clear hal hM0
  have HZ0 := Lib.hid hz0
  clear hz0
  go_wp2_with fail
  refine (HL.out _).mono ?_
  rintro e W1 ⟨rfl, ⟨n, D, hn, hown, hK⟩, hb⟩
  have HM1 := Lib.hid (own_below HM0.out hb)
  have HK := Lib.hid hK
  have hz1 := hb.size
  have hsz := size_le hown
  have hlt1 := World.ownsMap.lt hown
  have z0 := HZ0.out
  have HB1 := Lib.hid (HB0.out.trans (hb.mono (by omega)))
  generalize W0.heap.size = L1 at *
  have hm1 : w.heap.size < L1 := by omega
  clear hb HM0 HB0 HZ0 HL z0 hK
  go_wp2_with (first
    | (at_range; refine wpList_range_own _ rfl _ 53 rfl 3 56 lawI Try.underlying53 valR _ n D rfl hown ?_; intro w0 hrg0 hg0 hs0)
    | go_in)
  try go_frame
  go_loopw [11] (fun _ wr => ∃ (left : Lit → Bool) (cnt n2 : Nat) (D2 : DataW Value) (bx : Nat → Nat), wr.ranges Try.prog 3 valR L1 W1.heap.size n D left cnt ∧ wr.ownsMap Try.prog 3 valR w.heap.size n2 D2 ∧ KindMap D2 (fun k => left (lk k) = false) (fnP bx) ∧ BoxesAt wr (W1.heap.size + 1) p (fun k => left (lk k) = false) bx ∧ n2 + cnt ≤ 100 ∧ W1.heap.size + 1 ≤ wr.heap.size ∧ Hid (Below w.heap.size w wr))
    (fun _ wr => wr.rangeLeft L1 W1.heap.size)
  case atStart =>
    refine ⟨_, _, 0, .map [], fun _ => 0, hrg0, HM1.out.kept hg0 (by simp), ?_, fun k h1 h2 hs => ?_, by omega, by omega, Lib.hid (HB1.out.grown hg0 (by omega) (fun j e => by cases e))⟩
    · exact (kindMap_empty _).same fun k h1 h2 => ⟨fun h => h.elim, fun h => by rw [((HK.out.2.1 k h1 h2).2 trivial).1] at h; cases h⟩
    · have hs' : has D (lk k) = false := hs
      rw [((HK.out.2.1 k h1 h2).2 trivial).1] at hs'
      cases hs'
  case round =>
    clear HM1 HB1 hrg0 hg0 hs0
    obtain ⟨left, cnt, n2, D2, bx, hrg, hown2, hK2, hBx, hcn, hsz2, hB⟩ := hrel
    have HK2 := Lib.hid hK2
    have HBx := Lib.hid hBx
    have HO2 := Lib.hid hown2
    clear hK2 hBx hown2
    go_wp2_with (first
      | (at_next; refine wpList_next_ranges _ rfl _ rfl 3 lawI valR (id : Value → Value) (id : Value → Value) (fun key _ _ => ⟨key, rfl⟩) (fun v _ _ => ⟨v, rfl⟩) L1 W1.heap.size n _ _ _ rfl hrg ?_ ?_)
      | go_in)
    · intro hc0 hl0
      have hD2 := HK2.out.same (T := fun _ => True) fun k _ _ => ⟨fun _ => trivial, fun _ => hl0 _⟩
      have HX := Lib.hid hD2
      have hl0' := fun k => hl0 (lk k)
      clear hl0 hD2 hc0
      go_wp2_with fail
      go_ret
      refine ⟨w.heap.size, bx, rfl, ⟨n2, D2, by omega, HO2.out, HX.out⟩, ?_, Nat.le_refl _, hB.out⟩
      exact fun k h1 h2 _ => by
        obtain ⟨a, b⟩ := HBx.out k h1 h2 (hl0' k)
        exact ⟨by omega, b⟩
    · intro x c kl yd yp w2 cnt2 hkey hlk hv hat hrg2 hlt hg2 hs2 hen
      obtain ⟨k, h1, h2, rfl, hc⟩ := kind_of HK.out (y := (yd, yp)) hv hat
      obtain rfl : x = .int .i64 (k : Int) := lawI.inj hkey (lk_key k h2)
      obtain rfl : c = fieldP p k := hc
      have HO3 := Lib.hid (HO2.out.kept hg2 (by simp; omega))
      have HBx3 := Lib.hid (HBx.out.grown hg2 (fun j e => by cases e; omega))
      have HB3 := Lib.hid (hB.out.grown hg2 (by omega) (fun j e => by cases e; omega))
      have HRG2 := Lib.hid hrg2
      have HLK := Lib.hid hlk
      have HLE := Lib.hid hrg.left_eq
      clear hB HBx HO2 hg2 hat hv hkey hrg hrg2 hlk
      dsimp only [id, fieldP] at hen ⊢
      go_upto_region 5 with (fail)
      obtain ⟨W5, hW5, c5, g5, z5⟩ : ∃ WD, w2.alloc (.cells #[.pointer (some ⟨p, k - 1, none⟩)] 56) = WD ∧ WD.cell? ⟨wr.heap.size, 0, none⟩ = some (fieldP p k) ∧ w2.grownBy WD none ∧ WD.heap.size = w2.heap.size + 1 :=
        ⟨_, rfl, by rw [← hs2, cell_of_row _ _ _ _ _ _ (heap_new w2 _)]; rfl, World.grownBy_alloc _ _ _, by simp⟩
      rw [hW5]
      have hO5 := HO3.out.kept g5 (by simp)
      have hBx5 := HBx3.out.grown g5 (fun j e => by cases e)
      have hrg5 := HRG2.out.kept g5 (by simp) (by simp)
      have hB5 := HB3.out.grown g5 (by omega) (fun j e => by cases e)
      obtain ⟨bx2, hbx2⟩ : ∃ bx2 : Nat → Nat, bx2 = fun j => if j = k then wr.heap.size else bx j := ⟨_, rfl⟩
      have hbk : bx2 k = wr.heap.size := by rw [hbx2]; simp
      have hST : ∀ j, (left (lk j) && !(lk j).sameKey (lk k)) = false → j = k ∨ left (lk j) = false := fun j hj => by
        rw [same_lk] at hj
        by_cases e : j = k
        · exact .inl e
        · rw [decide_eq_false e] at hj; exact .inr (by simpa using hj)
      have hTS : ∀ j, (j = k ∨ left (lk j) = false) → (left (lk j) && !(lk j).sameKey (lk k)) = false := fun j hj => by
        rw [same_lk]
        rcases hj with rfl | hj
        · simp
        · rw [hj]; rfl
      have hBx6 : BoxesAt W5 (W1.heap.size + 1) p (fun j => (left (lk j) && !(lk j).sameKey (lk k)) = false) bx2 := by
        rw [hbx2]; exact hBx5.more (by omega) c5 hST
      have hK6 := (((HK2.out.congr (g := fnP bx2) (fun j _ _ hs => by
        have hne : j ≠ k := fun e => by
          have hs' : left (lk j) = false := hs
          rw [e, HLK.out] at hs'; cases hs'
        unfold fnP; rw [hbx2]; simp [hne])).put k h1 h2).same (fun j _ _ => ⟨hTS j, hST j⟩))
      obtain ⟨W6, hrun, hO6, hg6⟩ := hO5.update lawI Try.underlying58 (by unfold maxLen; omega) (lk_key k h2) (show valR (fnP bx2 k) = some (.held (fnP bx2 k), []) from rfl)
      have hrun2 : (Instr.mapUpdate 58 (.map (some w.heap.size)) (.int .i64 (k : Int)) (.func (.func 45) #[] #[.pointer (some ⟨wr.heap.size, 0, none⟩)])).run Try.prog W5 = .ok () W6 := by
        rw [← hbk]; exact hrun
      have hrg6 := hrg5.kept hg6 (by simp; omega) (by simp; omega)
      have HBx7 := Lib.hid (hBx6.grown hg6 (fun j e => by cases e; omega))
      have HB6 := Lib.hid (hB5.grown hg6 (by omega) (fun j e => by cases e; exact Nat.le_refl _))
      have HK6 := Lib.hid hK6
      have HO6 := Lib.hid hO6
      have hz6 := hg6.size
      have HRG6 := Lib.hid hrg6
      clear hrun hBx6 hK6 hO6 hO5 hBx5 hrg5 hrg6 hB5 HB3 HBx3 HRG2 HO3 hbk hST hTS hbx2 hW5 c5 g5 hen hg6
      go_wp2_with fail
      go_roundw
      case rel => exact ⟨_, cnt2, _, _, bx2, HRG6.out, HO6.out, HK6.out, HBx7.out, by omega, by omega, HB6⟩
      case measure => rw [HRG6.out.left_eq, HLE.out]; exact hlt
end Go.Proofs.Ytngkfopdlkddnaa
