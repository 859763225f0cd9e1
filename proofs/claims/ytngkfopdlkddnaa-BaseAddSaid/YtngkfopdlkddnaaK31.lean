/- The contracts of slices.EqualFunc at facts and of base.Same. | The contract of base.Holders. -/
import Derived.Test.YtngkfopdlkddnaaK27
import Derived.Test.YtngkfopdlkddnaaK28
import Derived.Test.YtngkfopdlkddnaaK22
import Derived.Test.YtngkfopdlkddnaaK30
import Derived.Maps.RangeWalk
namespace Go.Proofs.Ytngkfopdlkddnaa
open Go Go.RowKit Go.Maps
set_option maxRecDepth 100000 in
set_option maxHeartbeats 4000000 in
theorem equalF_calls (A : Option Addr) (l : List Fa) (cap : Nat) (B : Option Addr) (m : List Fa) (cap2 : Nat) (w : World) (hA : FactsS w A l) (hB : FactsS w B m) (hl : l.length ≤ 1000000) (_hm : m.length ≤ 1000000) :
    Calls Try.prog 25 #[.slice A l.length cap, .slice B m.length cap2, .func (.func 18) #[] #[]] w fun e W' => e = .returned (.bool (eqL l m)) ∧ Below w.heap.size w W' := by
  by_cases hne : l.length = m.length
  rotate_left
  · have he := eqL_len hne
    rw [he]
    clear he
    have hd1 : ((l.length : Int) == (m.length : Int)) = false := by rw [beq_eq_false_iff_ne]; omega
    have hd2 : ((l.length : Int) != (m.length : Int)) = true := by rw [bne, hd1]; rfl
    clear hne hA hB
    go_enter Try.func25, Try.ntmps25
    go_wp2_with fail
    go_ret
    exact ⟨rfl, Below.refl _ _⟩
  · have hd1 : ((l.length : Int) == (m.length : Int)) = true := by rw [beq_iff_eq]; omega
    have hd2 : ((l.length : Int) != (m.length : Int)) = false := by rw [bne, hd1]; rfl
    have HN := Lib.hid hne
    have HA := Lib.hid hA
    have HB := Lib.hid hB
    clear hne hA hB
    obtain ⟨c, hc⟩ : ∃ c, eqL l m = c := ⟨_, rfl⟩
    have HC := Lib.hid hc
    rw [hc]
    clear hc
    go_enter Try.func25, Try.ntmps25
    go_upto_region 4 with (fail)
    go_loopw [17] (fun iv wr => ∃ k : Nat, k ≤ l.length ∧ iv = .int .i64 k ∧ Hid (eqL (l.take k) (m.take k) = true) ∧ Hid (Below w.heap.size w wr)) (fun iv _ => l.length - (intOf iv).toNat)
    case atStart => exact ⟨0, by omega, rfl, Lib.hid rfl, Lib.hid (Below.refl _ _)⟩
    case round =>
      obtain ⟨k, hk, rfl, HE, HW⟩ := hrel
      have k0 : (0 : Int) ≤ (k : Int) := by omega
      by_cases hlt : k < l.length
      rotate_left
      · obtain rfl : k = l.length := by omega
        have k1 : (l.length : Int) ≤ (l.length : Int) := by omega
        have hct : c = true := by
          have h := HE.out
          rw [List.take_of_length_le (Nat.le_refl _), List.take_of_length_le (by rw [HN.out]; exact Nat.le_refl _), HC.out] at h
          exact h
        subst hct
        clear hlt hk HE
        go_wp2_with fail
        go_ret
        exact ⟨rfl, HW.out⟩
      · have k1 : (k : Int) < (l.length : Int) := by omega
        have hlt2 : k < m.length := by have := HN.out; omega
        have k2 : (k : Int) < (m.length : Int) := by omega
        rcases HA.out with hz | ⟨ba, oa, rfl, hsa⟩
        · rw [hz] at hlt; exact absurd hlt (by simp)
        rcases HB.out with hz | ⟨bb, ob, rfl, hsb⟩
        · rw [hz] at hlt2; exact absurd hlt2 (by simp)
        have HAT := Lib.hid (hsa.keep HW.out k hlt)
        have HBT := Lib.hid (hsb.keep HW.out k hlt2)
        have HSU := Lib.hid (fun h => eqL_succ l m k hlt hlt2 HE.out h)
        have HBD := Lib.hid (fun h => eqL_bad l m k hlt hlt2 h)
        clear hsa hsb HE
        generalize l.getD k zeroA = f at *
        generalize m.getD k zeroA = f2 at *
        obtain ⟨v, t⟩ := f
        obtain ⟨v2, t2⟩ := f2
        have hone := factC_one v t
        have hone2 := factC_one v2 t2
        go_upto_region 6 with (first | (refine wpList_load_at rfl _ rfl _ _ rfl v t HAT.out ?_) | (refine wpList_store_row rfl 29 _ _ rfl wr.heap.size (factC v t) rfl rfl 29 (factC (fun _ => 0) ⟨#[]⟩) (heap_new wr _) (hiC _ _) rfl hone ?_))
        obtain ⟨W5, hW5, f5, b5⟩ := box_new wr (factC (fun _ => 0) ⟨#[]⟩) (factC v t) 29
        rw [hW5]
        simp only [Act.put]
        have HBT5 := Lib.hid (fun j x h => Hl.cell b5 (HBT.out j x h))
        have F5 := Lib.hid f5
        have HW5 := Lib.hid (HW.out.trans (Below.mono b5 HW.out.size))
        clear hW5 f5 b5 HAT HBT hone
        generalize wr.heap.size = fb at *
        go_upto_region 7 with (first | (refine wpList_load_at rfl _ rfl _ _ rfl v2 t2 HBT5.out ?_) | (refine wpList_store_row rfl 29 _ _ rfl W5.heap.size (factC v2 t2) rfl rfl 29 (factC (fun _ => 0) ⟨#[]⟩) (heap_new W5 _) (hiC _ _) rfl hone2 ?_))
        obtain ⟨W6, hW6, f6, b6⟩ := box_new W5 (factC (fun _ => 0) ⟨#[]⟩) (factC v2 t2) 29
        rw [hW6]
        simp only [Act.put]
        have F5' := Lib.hid (Hl.row b6 F5.out)
        have F6 := Lib.hid f6
        have HW6 := Lib.hid (HW5.out.trans (Below.mono b6 HW5.out.size))
        clear hW6 f6 b6 HBT5 hone2 F5 HW5 HW
        generalize W5.heap.size = fb2 at *
        obtain ⟨d, hd⟩ : ∃ d, eqB v v2 t t2 = d := ⟨_, rfl⟩
        have HSM := Lib.hid (fun W => Same_calls v v2 t t2 W)
        rw [hd] at HSM
        have HD := Lib.hid hd
        clear hd
        go_wp2_with (first | (refine wpList_load_fact rfl _ rfl fb rfl v t F5'.out ?_) | (refine wpList_load_fact rfl _ rfl fb2 rfl v2 t2 F6.out ?_))
        refine (HSM.out _).mono ?_
        rintro e W7 ⟨rfl, b7⟩
        have HW7 := Lib.hid (HW6.out.trans (Below.mono b7 HW6.out.size))
        clear b7 HSM F5' F6 HW6
        cases d with
        | true =>
          go_wp2_with fail
          go_roundw
          case rel => exact ⟨k + 1, by omega, by go_num, Lib.hid (HSU.out HD.out), HW7⟩
          case measure => simp [intOf]; omega
        | false =>
          have hcf : c = false := HC.out.symm.trans (HBD.out HD.out)
          subst hcf
          go_wp2_with fail
          go_ret
          exact ⟨rfl, HW7.out⟩
theorem below_grown0 {w w' : World} (hb : Below w.heap.size w w') : w.grownBy w' none := ⟨hb.os, hb.tape, hb.output, hb.size, fun i hi _ => hb.block i hi⟩
/-- Ten slices of facts. -/
def SlB (w : World) (vs : Nat → Value) (Ls : Nat → List Fa) : Prop := ∀ k, k < 10 → ∃ A cap, vs k = .slice A (Ls k).length cap ∧ (Ls k).length ≤ cap ∧ (Ls k).length ≤ 1000000 ∧ FactsS w A (Ls k)
theorem SlB.below {w w' : World} {vs : Nat → Value} {Ls : Nat → List Fa} (h : SlB w vs Ls) (hb : Below w.heap.size w w') : SlB w' vs Ls := fun k hk => by
  obtain ⟨A, cap, h1, h2, h3, h4⟩ := h k hk
  exact ⟨A, cap, h1, h2, h3, h4.keep hb⟩
/-- All lists are equal. -/
def sameB (Ls Ms : Nat → List Fa) : Bool := (List.range 10).all fun k => eqL (Ls k) (Ms k)
theorem sameB_iff (Ls Ms : Nat → List Fa) : sameB Ls Ms = true ↔ ∀ k, k < 10 → eqL (Ls k) (Ms k) = true := by
  unfold sameB; simp [List.all_eq_true, List.mem_range]
theorem KindsAt.lookP {w : World} {m : Nat} {f : Nat → Value} (h : KindsAt w m f) {k : Nat} (k1 : 1 ≤ k) (k2 : k ≤ 10) : (Instr.lookup 53 (.map (some m)) (.int .i64 (k : Int)) false).run Try.prog w = .ok (f k) w := by
  obtain ⟨n, D, _, hown, hK⟩ := h
  obtain ⟨z, hz⟩ : ∃ z, (zeroValue 56).run Try.prog w = .ok z w := ⟨_, Try.zeroValue56 w⟩
  obtain ⟨v, ps, hrun, hv⟩ := World.ownsMap.lookup hown lawI Try.underlying53 hz (show valR z = some (.held z, []) from rfl) (lk_key k k2)
  rw [((hK.2.1 k k1 k2).2 trivial).2] at hv
  unfold valR at hv
  simp only [Option.some.injEq, Prod.mk.injEq, DataW.held.injEq] at hv
  rw [hrun, hv.1]
set_option maxRecDepth 100000 in
set_option maxHeartbeats 4000000 in
theorem SameB_calls (vs us : Nat → Value) (Ls Ms : Nat → List Fa) (w : World) (hv : SlB w vs Ls) (hu : SlB w us Ms) :
    Calls Try.prog 10 #[.agg (cells10 vs), .agg (cells10 us)] w fun e W' => e = .returned (.bool (sameB Ls Ms)) ∧ Below w.heap.size w W' := by
  obtain ⟨c, hc⟩ : ∃ c, sameB Ls Ms = c := ⟨_, rfl⟩
  have HC := Lib.hid hc
  rw [hc]
  clear hc
  have HV := Lib.hid hv
  have HU := Lib.hid hu
  clear hv hu
  go_enter Try.func10, Try.ntmps10
  go_upto_region 1 with (fail)
  obtain ⟨W0, hW0, f0, f1, b0⟩ := two_rows w (cells10 vs) (cells10 us) 32 32
  rw [hW0]
  clear hW0
  have F0 := Lib.hid f0
  have F1 := Lib.hid f1
  have B0 := Lib.hid b0
  have hz0 : w.heap.size + 1 < W0.heap.size := (Array.getElem?_eq_some_iff.1 f1).1
  clear f0 f1 b0
  generalize hp : w.heap.size + 1 = p at *
  have HP := Lib.hid hp
  clear hp
  go_wp2_with fail
  refine (lists_calls w.heap.size W0).mono ?_
  rintro e W1 ⟨rfl, ⟨n, D, hn, hown, hK⟩, b1⟩
  have HK := Lib.hid hK
  have hz1 := b1.size
  have hlt1 := World.ownsMap.lt hown
  have F0 := Lib.hid (Hl.row b1 F0.out)
  have F1 := Lib.hid (Hl.row b1 F1.out)
  have B1 := Lib.hid (B0.out.trans (Below.mono b1 (by have := HP.out; omega)))
  generalize W0.heap.size = L1 at *
  clear b1 hK B0
  go_wp2_with (first
    | (at_range; refine wpList_range_own _ rfl _ 53 rfl 3 56 lawI Try.underlying53 valR _ n D rfl hown ?_; intro w0 hrg0 hg0 hs0)
    | go_in)
  try go_frame
  go_loopw [10] (fun _ wr => ∃ (left : Lit → Bool) (cnt : Nat), wr.ranges Try.prog 3 valR L1 W1.heap.size n D left cnt ∧ Hid (∀ k, 1 ≤ k → k ≤ 10 → left (lk k) = false → eqL (Ls (k - 1)) (Ms (k - 1)) = true) ∧ Hid (Below W1.heap.size W1 wr))
    (fun _ wr => wr.rangeLeft L1 W1.heap.size)
  case atStart =>
    refine ⟨_, _, hrg0, Lib.hid (fun k h1 h2 hs => ?_), Lib.hid ((Below.refl _ _).grown hg0 (Nat.le_refl _) (fun j e => by cases e))⟩
    rw [((HK.out.2.1 k h1 h2).2 trivial).1] at hs
    cases hs
  case round =>
    clear hrg0 hg0 hs0
    obtain ⟨left, cnt, hrg, HE, HW⟩ := hrel
    go_wp2_with (first
      | (at_next; refine wpList_next_ranges _ rfl _ rfl 3 lawI valR (id : Value → Value) (id : Value → Value) (fun key _ _ => ⟨key, rfl⟩) (fun v _ _ => ⟨v, rfl⟩) L1 W1.heap.size n _ _ _ rfl hrg ?_ ?_)
      | go_in)
    · intro hc0 hl0
      have hct : c = true := by
        rw [← HC.out, sameB_iff]
        intro k hk
        have := HE.out (k + 1) (by omega) (by omega) (hl0 _)
        simpa using this
      subst hct
      clear hl0 hc0
      go_wp2_with fail
      go_ret
      exact ⟨rfl, B1.out.trans (HW.out.mono (by have := HP.out; omega))⟩
    · intro x cv kl yd yp w2 cnt2 hkey hlk hv hat hrg2 hlt hg2 hs2 hen
      obtain ⟨k, h1, h2, rfl, hcv⟩ := kind_of HK.out (y := (yd, yp)) hv hat
      obtain rfl : x = .int .i64 (k : Int) := lawI.inj hkey (lk_key k h2)
      obtain rfl : cv = fieldP w.heap.size k := hcv
      have HW2 := Lib.hid (HW.out.grown hg2 HW.out.size (fun j e => by cases e; exact Nat.le_refl _))
      have HRG2 := Lib.hid hrg2
      have HLE := Lib.hid hrg.left_eq
      clear hg2 hat hv hkey hrg hrg2 hlk HW
      obtain ⟨A, cap, hva, hcap, hll, hfa⟩ := HV.out (k - 1) (by omega)
      obtain ⟨A2, cap2, hua, hcap2, hll2, hfa2⟩ := HU.out (k - 1) (by omega)
      have BW := Lib.hid (B1.out.trans (HW2.out.mono (by have := HP.out; omega)))
      have ca := Lib.hid (show w2.cell? ⟨w.heap.size, k - 1, none⟩ = some (.slice A (Ls (k - 1)).length cap) by
        rw [cell_of_row _ _ _ _ _ _ (Hl.row HW2.out F0.out), ← hva]; exact cells10_get vs (by omega))
      have cb := Lib.hid (show w2.cell? ⟨p, k - 1, none⟩ = some (.slice A2 (Ms (k - 1)).length cap2) by
        rw [cell_of_row _ _ _ _ _ _ (Hl.row HW2.out F1.out), ← hua]; exact cells10_get us (by omega))
      have HEQ := Lib.hid (fun (W : World) (hb : Below w2.heap.size w2 W) => equalF_calls A (Ls (k - 1)) cap A2 (Ms (k - 1)) cap2 W ((hfa.keep BW.out).keep hb) ((hfa2.keep BW.out).keep hb) hll hll2)
      have HTR := Lib.hid (fun (h : c = true) => (sameB_iff Ls Ms).1 (HC.out.trans h) (k - 1) (by omega))
      have HFL := Lib.hid (fun (h : eqL (Ls (k - 1)) (Ms (k - 1)) = true) j (j1 : 1 ≤ j) (j2 : j ≤ 10) (hj : (left (lk j) && !(lk j).sameKey (lk k)) = false) => (show eqL (Ls (j - 1)) (Ms (j - 1)) = true by
        rw [same_lk] at hj
        by_cases e : j = k
        · rw [e]; exact h
        · rw [decide_eq_false e] at hj; exact HE.out j j1 j2 (by simpa using hj)))
      clear hva hua hfa hfa2 hcap hcap2 hll hll2 HE
      generalize hd : eqL (Ls (k - 1)) (Ms (k - 1)) = d at *
      generalize (Ls (k - 1)).length = n1 at *
      generalize (Ms (k - 1)).length = n2 at *
      clear hd
      dsimp only [id, fieldP] at hen ⊢
      go_upto_region 4 with (fail)
      refine wp_region_mixS 3 (fun w' => Below w2.heap.size w2 w') [true, true, true, true, false, false, false, false, false, false] [0, 1, 2, 4, 3, 5, 6, 7, 8, 9] (by kernel_rfl) (by kernel_rfl) (by kernel_rfl) ((Below.refl _ _).drew) ?_
      intro w3 hb3
      simp only [swapAt]
      refine mix_val (.pointer (some ⟨w.heap.size, k - 1, none⟩)) (by rfl) (fun _ _ => by first | rfl | (go_simp; done)) ?_
      simp only [Act.put, List.setIfInBounds_toArray, List.set_cons_zero, List.set_cons_succ]
      refine mix_val (.pointer (some ⟨w.heap.size, k - 1, none⟩)) (by rfl) (fun _ _ => by first | rfl | (go_simp; done)) ?_
      simp only [Act.put, List.setIfInBounds_toArray, List.set_cons_zero, List.set_cons_succ]
      refine mix_val (.slice A n1 cap) (by rfl) (fun w' h => by have hh := Hl.cell h ca.out; go_simp) ?_
      simp only [Act.put, List.setIfInBounds_toArray, List.set_cons_zero, List.set_cons_succ]
      refine mix_val (.int .i64 (k : Int)) (by rfl) (fun _ _ => by first | rfl | (go_simp; done)) ?_
      simp only [Act.put, List.setIfInBounds_toArray, List.set_cons_zero, List.set_cons_succ]
      refine mix_stand_callR (fun v w4 => v = .map (some w3.heap.size) ∧ KindsAt w4 w3.heap.size (fieldP p)) 24 #[.pointer (some ⟨p, 0, none⟩)] (by rfl) (by go_simp) ((lists_calls p w3).mono fun e w4 ⟨he, h5, h6⟩ => ⟨_, he, ⟨rfl, h5⟩, hb3.trans (Below.mono h6 hb3.size)⟩) ?_
      rintro _ w4 ⟨rfl, hk4⟩ hb4
      simp only [Act.put, List.setIfInBounds_toArray, List.set_cons_zero, List.set_cons_succ]
      have hl5 : (Instr.lookup 53 (.map (some w3.heap.size)) (.int .i64 (k : Int)) false).run Try.prog w4 = .ok (.pointer (some ⟨p, k - 1, none⟩)) w4 := hk4.lookP h1 h2
      refine mix_stand w4 (.pointer (some ⟨p, k - 1, none⟩)) (by rfl) (by go_simp) hb4 ?_
      simp only [Act.put, List.setIfInBounds_toArray, List.set_cons_zero, List.set_cons_succ]
      refine mix_stand w4 (.pointer (some ⟨p, k - 1, none⟩)) (by rfl) (by first | rfl | (go_simp; done)) hb4 ?_
      simp only [Act.put, List.setIfInBounds_toArray, List.set_cons_zero, List.set_cons_succ]
      refine mix_stand w4 (.slice A2 n2 cap2) (by rfl) (by have hh := Hl.cell hb4 cb.out; go_simp) hb4 ?_
      simp only [Act.put, List.setIfInBounds_toArray, List.set_cons_zero, List.set_cons_succ]
      refine mix_stand_callR (fun v w5 => v = .bool d) 25 #[.slice A n1 cap, .slice A2 n2 cap2, .func (.func 18) #[] #[]] (by rfl) (by go_simp) ((HEQ.out w4 hb4).mono fun e w5 ⟨he, h6⟩ => ⟨_, he, rfl, hb4.trans (Below.mono h6 hb4.size)⟩) ?_
      rintro _ w5 rfl hb5
      simp only [Act.put, List.setIfInBounds_toArray, List.set_cons_zero, List.set_cons_succ]
      refine mix_stand w5 (.bool (!d)) (by rfl) (by first | rfl | (go_simp; done)) hb5 ?_
      simp only [Act.put, List.setIfInBounds_toArray, List.set_cons_zero, List.set_cons_succ]
      refine mix_done (P := Try.prog) (ops := #[]) (C := fun _ => True) ?_
      have HW5 := Lib.hid (HW2.out.trans (Below.mono hb5 HW2.out.size))
      have HB5 := Lib.hid hb5
      clear hl5 hk4 hb4 hb3 hb5 HEQ ca cb
      cases d with
      | true =>
        go_wp2_with fail
        go_roundw
        case rel => exact ⟨_, cnt2, HRG2.out.kept (below_grown0 HB5.out) (by simp) (by simp), Lib.hid (HFL.out rfl), HW5⟩
        case measure => rw [(HRG2.out.kept (below_grown0 HB5.out) (by simp) (by simp)).left_eq, HLE.out]; exact hlt
      | false =>
        have hcf : c = false := by
          cases c with
          | false => rfl
          | true => exact absurd (HTR.out rfl) (by decide)
        subst hcf
        go_wp2_with fail
        go_ret
        exact ⟨rfl, B1.out.trans (HW5.out.mono (by have := HP.out; omega))⟩
end Go.Proofs.Ytngkfopdlkddnaa
namespace Go.Proofs.Ytngkfopdlkddnaa
open Go Go.RowKit Go.Maps
theorem RowI.mono {w : World} {a b : Nat} {v : Value} {l : List Int} (h : RowI w a v l) (hab : b ≤ a) : RowI w b v l := by
  refine ⟨h.1, ?_⟩
  rcases h.2 with h0 | ⟨g, cap, cur, hv, hbg, r⟩
  · exact .inl h0
  · exact .inr ⟨g, cap, cur, hv, Nat.le_trans hab hbg, r⟩
def pairL (Ls : Nat → List Fa) (i : Nat) : List Fa := if i = 0 then Ls 2 else Ls 3
def holL (Ls : Nat → List Fa) (i : Nat) : List Int := ((List.range i).flatMap (pairL Ls)).map (fun f => f.1 9)
def holders (Ls : Nat → List Fa) : List Int := Lib.compact ((holL Ls 2).mergeSort fun x y => decide (x ≤ y))
theorem holL_succ (Ls : Nat → List Fa) (i : Nat) : holL Ls (i + 1) = holL Ls i ++ (pairL Ls i).map (fun f => f.1 9) := by
  unfold holL
  rw [List.range_succ, List.flatMap_append, List.map_append]
  simp
set_option maxRecDepth 100000 in
set_option maxHeartbeats 8000000 in
theorem Holders_calls (vs : Nat → Value) (Ls : Nat → List Fa) (w : World) (hv : SlB w vs Ls) (hl : ∀ k, k < 10 → (Ls k).length ≤ 100000) :
    Calls Try.prog 23 #[.agg (cells10 vs)] w fun e W' => ∃ v, e = .returned v ∧ RowI W' w.heap.size v (holders Ls) ∧ Below w.heap.size w W' := by
  have hp : ∀ i, i < 2 → ∃ A cap, (if i = 0 then vs 2 else vs 3) = .slice A (pairL Ls i).length cap ∧ (pairL Ls i).length ≤ 100000 ∧ FactsS w A (pairL Ls i) := fun i hi => by
    rcases i with _ | _ | i
    · obtain ⟨A, cap, h1, h2, h3, h4⟩ := hv 2 (by omega)
      exact ⟨A, cap, h1, hl 2 (by omega), h4⟩
    · obtain ⟨A, cap, h1, h2, h3, h4⟩ := hv 3 (by omega)
      exact ⟨A, cap, h1, hl 3 (by omega), h4⟩
    · omega
  have hb0 : (pairL Ls 0).length ≤ 100000 := hl 2 (by omega)
  have hb1 : (pairL Ls 1).length ≤ 100000 := hl 3 (by omega)
  have HHL : Hid (∀ i, i ≤ 2 → (holL Ls i).length ≤ 200000) := Lib.hid (fun i hi => by
    rcases i with _ | _ | _ | i
    · simp [holL]
    · rw [holL_succ]; simp [holL]; omega
    · rw [holL_succ, holL_succ]; simp [holL]; omega
    · omega)
  have HPR := Lib.hid hp
  obtain ⟨A2, cap2, h2v, -⟩ := hv 2 (by omega)
  obtain ⟨A3, cap3, h3v, -⟩ := hv 3 (by omega)
  have H2 := Lib.hid h2v
  have H3 := Lib.hid h3v
  clear hp hv hl hb0 hb1 h2v h3v
  go_enter Try.func23, Try.ntmps23
  go_upto_region 2 with (fail)
  obtain ⟨W0, hW0, f0, b0⟩ := one_row w (cells10 vs) 32
  rw [hW0]
  clear hW0
  have c2 : W0.cell? ⟨w.heap.size, 2, none⟩ = some (.slice A2 (Ls 2).length cap2) := by
    rw [cell_of_row _ _ _ _ _ _ f0, ← H2.out]; exact cells10_get vs (by omega)
  have c3 : W0.cell? ⟨w.heap.size, 3, none⟩ = some (.slice A3 (Ls 3).length cap3) := by
    rw [cell_of_row _ _ _ _ _ _ f0, ← H3.out]; exact cells10_get vs (by omega)
  have B0 := Lib.hid b0
  clear f0 b0
  go_upto_region 3 with (fail)
  obtain ⟨W1, hW1, f1, b1⟩ := one_row W0 #[.slice A2 (Ls 2).length cap2, .slice A3 (Ls 3).length cap3] 23
  rw [hW1]
  clear hW1
  have F1 := Lib.hid f1
  have B1 := Lib.hid (B0.out.trans (Below.mono b1 B0.out.size))
  have hz1 : W0.heap.size < W1.heap.size := (Array.getElem?_eq_some_iff.1 f1).1
  have HCL := Lib.hid (show ∀ i, i < 2 → ∀ W, Below W1.heap.size W1 W → W.cell? ⟨W0.heap.size, i, none⟩ = some (if i = 0 then vs 2 else vs 3) from fun i hi W hb => by
    rw [cell_of_row _ _ _ _ _ _ (Hl.row hb F1.out)]
    rcases i with _ | _ | i
    · rw [if_pos rfl, H2.out]; rfl
    · rw [if_neg (by omega), H3.out]; rfl
    · omega)
  clear f1 b1 c2 c3 B0 F1
  generalize W0.heap.size = gl at *
  go_loopw [14, 3] (fun iv hv wr => ∃ i : Nat, i ≤ 2 ∧ iv = .int .i64 i ∧ Hid (RowI wr W1.heap.size hv (holL Ls i)) ∧ Hid (Below W1.heap.size W1 wr)) (fun iv _ _ => 2 - (intOf iv).toNat)
  case atStart => exact ⟨0, by omega, rfl, Lib.hid (RowI.nil _ _), Lib.hid (Below.refl _ _)⟩
  case round =>
    rename_i hv0
    obtain ⟨i, hi, rfl, HR, HW⟩ := hrel
    have i0 : (0 : Int) ≤ (i : Int) := by omega
    by_cases hlt : i < 2
    rotate_left
    · obtain rfl : i = 2 := by omega
      clear hlt hi
      have HS := Lib.hid (sortI_calls W1.heap.size _ (holL Ls 2) wr HR.out (by have := HHL.out 2 (by omega); omega) HW.out.size)
      go_wp2_with fail
      refine HS.out.mono ?_
      rintro e W2 ⟨rfl, hr2, hb2⟩
      have HC := Lib.hid (compactI_calls W1.heap.size _ _ W2 hr2 (by have := HHL.out 2 (by omega); rw [List.length_mergeSort]; omega) (Nat.le_trans HW.out.size hb2.size))
      have B2 := Lib.hid (HW.out.trans hb2)
      clear hr2 hb2
      go_wp2_with fail
      refine HC.out.mono ?_
      rintro e W3 ⟨v', rfl, hr3, hb3⟩
      have B3 := Lib.hid (B2.out.trans hb3)
      have HR3 := Lib.hid hr3
      clear hr3 hb3
      go_wp2_with fail
      go_ret
      exact ⟨_, rfl, RowI.mono HR3.out B1.out.size, B1.out.trans (B3.out.mono B1.out.size)⟩
    · have i1 : (i : Int) < 2 := by omega
      obtain ⟨A, cap, hsl, hll, hfa⟩ := HPR.out i hlt
      have hcl := HCL.out i hlt wr HW.out
      rw [hsl] at hcl
      have HFA := Lib.hid (hfa.keep B1.out)
      have HLS := Lib.hid (holL_succ Ls i)
      have hhl := HHL.out i hi
      generalize pairL Ls i = L at *
      clear hsl hfa
      go_upto_region 6 with (fail)
      obtain ⟨WC, hWC⟩ : ∃ WC, WC = wr := ⟨_, rfl⟩
      subst hWC
      go_loopw [20, 3] (fun jv hv wr => ∃ j : Nat, j ≤ L.length ∧ jv = .int .i64 j ∧ Hid (RowI wr W1.heap.size hv (holL Ls i ++ (L.take j).map (fun f => f.1 9))) ∧ Hid (Below W1.heap.size W1 wr)) (fun jv _ _ => L.length - (intOf jv).toNat)
      case atStart => exact ⟨0, by omega, rfl, by rw [List.take_zero, List.map_nil, List.append_nil]; exact HR, HW⟩
      case round =>
        clear HR HW hcl
        rename_i hv1
        obtain ⟨j, hj, rfl, HR, HW⟩ := hrel
        have j0 : (0 : Int) ≤ (j : Int) := by omega
        by_cases hjl : j < L.length
        rotate_left
        · obtain rfl : j = L.length := by omega
          have j1 : (L.length : Int) ≤ (L.length : Int) := by omega
          clear hjl hj
          go_wp2_with fail
          go_roundw
          case rel => exact ⟨i + 1, by omega, by go_num, by rw [HLS.out]; rw [List.take_of_length_le (Nat.le_refl _)] at HR; exact HR, HW⟩
          case measure => simp [intOf]; omega
        · have j1 : (j : Int) < (L.length : Int) := by omega
          rcases HFA.out with hz | ⟨b, o, rfl, hst⟩
          · rw [hz] at hjl; exact absurd hjl (by simp)
          have HAT := Lib.hid (hst.keep HW.out j hjl)
          have HTK := Lib.hid (show (L.take (j + 1)).map (fun f => f.1 9) = (L.take j).map (fun f => f.1 9) ++ [(L.getD j zeroA).1 9] by
            rw [List.take_succ_eq_append_getElem hjl, List.map_append, List.getD_eq_getElem?_getD, List.getElem?_eq_getElem hjl]; rfl)
          have hln : (holL Ls i ++ (L.take j).map (fun f => f.1 9)).length ≤ 1000000 := by rw [List.length_append, List.length_map, List.length_take]; omega
          clear hst
          generalize L.getD j zeroA = f at *
          obtain ⟨v, t⟩ := f
          have hone := factC_one v t
          go_upto_region 8 with (first | (refine wpList_load_at rfl _ rfl _ _ rfl v t HAT.out ?_) | (refine wpList_store_row rfl 29 _ _ rfl wr.heap.size (factC v t) rfl rfl 29 (factC (fun _ => 0) ⟨#[]⟩) (heap_new wr _) (hiC _ _) rfl hone ?_))
          obtain ⟨W5, hW5, f5, b5⟩ := box_new wr (factC (fun _ => 0) ⟨#[]⟩) (factC v t) 29
          rw [hW5]
          try simp only [Act.put]
          have c9 := (row18 f5).2.2.2.2.2.2.2.2.2.1
          have B5 := HW.out.trans (Below.mono b5 HW.out.size)
          have b6 : Below W5.heap.size W5 (W5.alloc (.cells #[.int .i64 (v 9)] 3)) := (Below.refl _ W5).alloc (Nat.le_refl _) _
          have B6 := B5.trans (Below.mono b6 B5.size)
          obtain ⟨v', w', happ, hrow, hgr⟩ := appendI W1.heap.size (W5.alloc (.cells #[.int .i64 (v 9)] 3)) ((HR.out.below b5).below b6) (v 9) W5.heap.size (heap_new W5 _) B6.size hln 24
          have HW' := Lib.hid (B6.grown hgr B6.size (fun k e => RowI.lt HR.out k e))
          have HR' := Lib.hid hrow
          clear hW5 f5 b5 hone B5 b6 B6 hrow hgr HAT
          go_wp2_with (at_builtin; refine wpList_append_run rfl _ _ 24 rfl _ _ rfl rfl happ ?_)
          go_roundw
          case rel => exact ⟨j + 1, by omega, by go_num, by rw [HTK.out, ← List.append_assoc]; exact HR', HW'⟩
          case measure => simp [intOf]; omega
end Go.Proofs.Ytngkfopdlkddnaa
