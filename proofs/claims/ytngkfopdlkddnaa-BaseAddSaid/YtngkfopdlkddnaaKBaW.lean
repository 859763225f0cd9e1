/- The walk of BaseAdd. -/
import Derived.Test.YtngkfopdlkddnaaKBs5
import Derived.Test.YtngkfopdlkddnaaKBjW
import Derived.Deep.Cut
import Derived.Deep.CutBlock
import Derived.Deep.CutRange
import Derived.Deep.DeepCutAuto
namespace Go.Proofs.Ytngkfopdlkddnaa
open Go Go.RowKit Go.Maps
theorem elem_at {FA : List Fa} {A : List Fx} (h : A.map faX = FA) {i : Nat} (hi : i < FA.length) : ∃ x, FA.getD i zeroA = faX x ∧ x ∈ A ∧ A.take (i + 1) = A.take i ++ [x] ∧ A.drop i = x :: A.drop (i + 1) := by
  subst h
  rw [List.length_map] at hi
  refine ⟨A[i], ?_, List.getElem_mem hi, List.take_succ_eq_append_getElem hi, List.drop_eq_getElem_cons hi⟩
  rw [List.getD_eq_getElem?_getD, List.getElem?_map, List.getElem?_eq_getElem hi]; rfl
theorem kyB_key (fv : Nat → Int) (ft : ByteArray) (x : Fx) : kyB (faX x).1 fv = decide (keyX x = keyX (nfX (fv, ft))) := by
  rw [key_nf]
  unfold kyB keyX
  apply decide_eq_decide.2
  constructor
  · rintro ⟨h1, h2⟩; exact Prod.ext h1 h2
  · intro h; exact ⟨congrArg Prod.fst h, congrArg Prod.snd h⟩
/-- What the wanted fact is after some facts have been looked at. -/
def WantP (fv : Nat → Int) (ft : ByteArray) (K : K3) (A : List Fx) (wf : Fa) : Prop := ((∀ x ∈ A, keyX x ≠ K) → wf = (fv, ft)) ∧ ∀ x ∈ A, keyX x = K → wf = if pvX (nfX (fv, ft)) x = true then (fv, ft) else faX x
theorem same_want {l : List Fa} {fv : Nat → Int} {ft : ByteArray} {A B : List Fx} (hf : okX (nfX (fv, ft)) = true) (hA : Bs.Lst okX keyX pvX ltK (fun _ => True) (l.map nfX) A) (hB : Bs.Lst okX keyX pvX ltK (fun _ => True) (l.map nfX ++ [nfX (fv, ft)]) B) {wf : Fa} (hW : WantP fv ft (keyX (nfX (fv, ft))) A wf) {y : Fx} (hy : y ∈ B) (hk : keyX y = keyX (nfX (fv, ft))) : eqB (faX y).1 wf.1 (faX y).2 wf.2 = true := by
  rw [Bs.want_only hf hB hy hk, eqB_val]
  by_cases h : ∃ x ∈ A, keyX x = keyX (nfX (fv, ft))
  · obtain ⟨x, hx, hkx⟩ := h
    rw [Bs.want_known hA hx hkx, hW.2 x hx hkx]
    split
    · exact nf_val (fv, ft)
    · rfl
  · rw [Bs.want_new lawsX hA (fun x hx e => h ⟨x, hx, e⟩), hW.1 (fun x hx e => h ⟨x, hx, e⟩)]
    exact nf_val (fv, ft)
theorem any_key (A : List Fx) (K : K3) : A.any (fun x => decide (keyX x = K)) = decide (∃ x ∈ A, keyX x = K) := by
  rw [Bool.eq_iff_iff, List.any_eq_true, decide_eq_true_iff]
  constructor
  · rintro ⟨x, hx, h⟩; exact ⟨x, hx, of_decide_eq_true h⟩
  · rintro ⟨x, hx, h⟩; exact ⟨x, hx, decide_eq_true h⟩
theorem size_key {l : List Fa} {f : Fx} {A B : List Fx} (hf : okX f = true) (hA : Bs.Lst okX keyX pvX ltK (fun _ => True) (l.map nfX) A) (hB : Bs.Lst okX keyX pvX ltK (fun _ => True) (l.map nfX ++ [f]) B) : B.length = if A.any (fun x => decide (keyX x = keyX f)) = true then A.length else A.length + 1 := by
  rw [any_key, Bs.add_len lawsX orderK hf hA hB]
  simp only [decide_eq_true_iff]
theorem has_key {l : List Fa} {f : Fx} {B : List Fx} (hf : okX f = true) (hB : Bs.Lst okX keyX pvX ltK (fun _ => True) (l.map nfX ++ [f]) B) : B.any (fun x => decide (keyX x = keyX f)) = true :=
  List.any_eq_true.2 ⟨_, Bs.add_has lawsX hf hB, decide_eq_true (Bs.want_key lawsX hf)⟩
theorem Same_true (v wv : Nat → Int) (s wt : ByteArray) (h : eqB v wv s wt = true) (W : World) : Calls Try.prog 18 #[.agg (factC v s), .agg (factC wv wt)] W fun e W' => e = .returned (.bool true) ∧ Below W.heap.size W W' :=
  (Same_calls v wv s wt W).mono fun _ _ h' => ⟨by rw [h'.1, h], h'.2⟩
/-- The base is the same where the further fact is not valid. -/
theorem base_off {l : List Fa} {f : Fa} {Ms Ns : Nat → List Fx} (hf : okT f.1 f.2 = false) (hM : OfP l Ms) (hN : OfP (l ++ [f]) Ns) : allX Ms 10 = allX Ns 10 := by
  have h1 := all_lst hM
  have h2 := all_lst hN
  rw [List.map_append] at h2
  have h3 := Bs.lst_off h1 (f := nfX f) (fun h => by rw [ok_nf, hf] at h; cases h.1)
  exact Bs.lst_unique orderK (fun _ => rfl) h3 h2
set_option maxRecDepth 100000 in
set_option maxHeartbeats 8000000 in
theorem badd_walk (AX : Option Addr) (xs : List (Nat → Int)) (capX : Nat) (more : Nat → Int) (u : Nat → Int) (t : ByteArray) (arb : Bool) (w : World)
    (hX : SixS w AX xs) (hx : ∀ x ∈ xs, In6 x) (hlx : xs.length ≤ 9223372036854775807) (hm : In6 more) (_hu : Ints u) (_ht : t.size ≤ 9223372036854775807) :
    Calls Try.prog 5 #[.slice AX xs.length capX, .agg (cells6 more), .agg (factC u t), .bool arb] w fun e W' => e = .returned (.bool true) ∧ Below w.heap.size w W' := by
  have HF1 := Lib.hid (fun W (h : Below w.heap.size w W) => (show Calls Try.prog 8 #[.slice AX xs.length capX, .slice none 0 0] W _ from facts_calls AX xs capX none [] 0 W (hX.keep h) hx hlx (.inl rfl) (by simp)))
  have HMK := Lib.hid (fun W => Make_calls more W hm)
  have hL := factsF_len xs []
  generalize factsF xs [] = L at *
  obtain ⟨f, hf⟩ : ∃ f : Fa, (if arb = true then (u, t) else makeF more) = f := ⟨_, rfl⟩
  have HFA := Lib.hid hf
  clear hX hx hlx hm hf
  go_enter Try.func5, Try.ntmps5
  go_upto_region 1 with (fail)
  obtain ⟨W0, hW0, f0, f1, b0⟩ := two_rows w (cells6 more) (factC u t) 37 29
  rw [hW0]
  clear hW0
  have F5 := Lib.hid f0
  have F6 := Lib.hid f1
  have B0 := Lib.hid b0
  have hz0 : w.heap.size + 1 < W0.heap.size := (Array.getElem?_eq_some_iff.1 f1).1
  clear f0 f1 b0
  go_wp2_with fail
  refine (sane_calls W0).mono ?_
  rintro e W1 ⟨rfl, b1⟩
  have F5 := Lib.hid (Hl.row b1 F5.out)
  have F6 := Lib.hid (Hl.row b1 F6.out)
  have B1 := Lib.hid (B0.out.trans (Below.mono b1 B0.out.size))
  clear b1 B0
  go_wp2_with fail
  refine (HF1.out W1 B1.out).mono ?_
  rintro e W2 ⟨v1, rfl, hr1, b2⟩
  obtain ⟨A1, cap1, rfl, hc1, hs1⟩ := RowA.slice hr1
  have R1 := Lib.hid hr1
  have S1 := Lib.hid hs1
  have F5 := Lib.hid (Hl.row b2 F5.out)
  have F6 := Lib.hid (Hl.row b2 F6.out)
  have B2 := Lib.hid (B1.out.trans (Below.mono b2 B1.out.size))
  have hz2 : w.heap.size + 1 < W2.heap.size := (Array.getElem?_eq_some_iff.1 F6.out).1
  clear hr1 hs1 b2 HF1 B1
  have hi6 : (Try.prog.info? 37).map (·.size) = some (cells6 more).size := by kernel_rfl
  go_wp2_with (refine wpList_load_row rfl 37 _ rfl w.heap.size rfl _ _ _ _ F5.out Try.underlying37 rfl hi6 ?_)
  refine (HMK.out W2).mono ?_
  rintro e W3 ⟨rfl, b3⟩
  have F6 := Lib.hid (Hl.row b3 F6.out)
  have B3 := Lib.hid b3
  have hz3 := b3.size
  clear b3 HMK F5
  have hone := factC_one (makeF more).1 (makeF more).2
  go_upto_region 4 with (refine wpList_store_row rfl 29 _ _ rfl W3.heap.size (factC (makeF more).1 (makeF more).2) rfl rfl 29 (factC (fun _ => 0) ⟨#[]⟩) (heap_new W3 _) (hiC _ _) rfl hone ?_)
  obtain ⟨W4, hW4, f4, b4⟩ := box_new W3 (factC (fun _ => 0) ⟨#[]⟩) (factC (makeF more).1 (makeF more).2) 29
  rw [hW4]
  try simp only [Act.put]
  have F4 := Lib.hid f4
  have F6 := Lib.hid (Hl.row b4 F6.out)
  have B4 := Lib.hid (B3.out.trans (Below.mono b4 hz3))
  clear hW4 f4 b4 B3 hone
  have hzb : W2.heap.size ≤ W3.heap.size := hz3
  generalize W3.heap.size = fb at *
  go_upto_if 27 with (fail)
  go_cut [11] (fun pv wx => pv = .pointer (some ⟨fb, 0, none⟩) ∧ Hid (wx.heap[fb]? = some (.cells (factC f.1 f.2) 29 (0, 0))) ∧ Hid (Below W2.heap.size W2 wx))
  case first =>
    cases arb with
    | false =>
      have e : makeF more = f := HFA.out
      go_wp2_with fail
      go_meet
      exact ⟨rfl, by rw [← e]; exact F4, B4⟩
    | true =>
      have e : (u, t) = f := HFA.out
      have hone2 := factC_one u t
      go_wp2_with (first
        | (refine wpList_load_fact rfl _ rfl (w.heap.size + 1) rfl u t F6.out ?_)
        | (refine wpList_store_row rfl 29 _ _ rfl fb (factC u t) rfl rfl 29 _ F4.out (hiC _ _) rfl hone2 ?_))
      go_meet
      exact ⟨rfl, Lib.hid (by rw [← e]; exact setRow_heap _ fb _ _ 29 (0, 0) F4.out), Lib.hid (below_setRow' B4.out _ _ hzb)⟩
  case rest =>
    obtain ⟨rfl, FF, B5⟩ := hcut
    have HOF := Lib.hid (Of_calls A1 L cap1 wc (S1.out.keep B5.out) (by omega))
    have R5 := Lib.hid (R1.out.below B5.out)
    have BW := Lib.hid (B2.out.trans (Below.mono B5.out B2.out.size))
    clear F4 F6 B4 S1 R1 B5 B2
    obtain ⟨fv, ft⟩ := f
    go_wp2_with fail
    refine HOF.out.mono ?_
    rintro e W6 ⟨vs, Ms, rfl, hP1, hrs, b6⟩
    have P1 := Lib.hid hP1
    have HFC := Lib.hid (Facts10_calls vs _ _ W6 (fun k hk => (hrs k hk).1) (ms_len hrs (by omega)))
    have HL1 := facts10_small (fun k hk => (hrs k hk).2) (by omega)
    obtain ⟨FA, hFA⟩ : ∃ FA, facts10 (fun k => (Ms k).map faX) 10 = FA := ⟨_, rfl⟩
    rw [hFA] at HFC HL1
    rw [facts10_all] at hFA
    have HFA2 := Lib.hid hFA
    clear hFA
    have R5 := Lib.hid (R5.out.below b6)
    have FF := Lib.hid (Hl.row b6 FF.out)
    have BW := Lib.hid (BW.out.trans (Below.mono b6 BW.out.size))
    clear hP1 hrs b6 HOF
    go_wp2_with fail
    refine HFC.out.mono ?_
    rintro e W7 ⟨v7, rfl, hr7, b7⟩
    obtain ⟨A7, cap7, rfl, hc7, hs7⟩ := RowA.slice hr7
    have S7 := Lib.hid hs7
    have R7 := Lib.hid (R5.out.below b7)
    have FF := Lib.hid (Hl.row b7 FF.out)
    have BW := Lib.hid (BW.out.trans (Below.mono b7 BW.out.size))
    clear hr7 hs7 b7 HFC R5
    go_upto_region 7 with (fail)
    go_cut [13] (fun v wx => ∃ Ns, Hid (OfP (L ++ [(fv, ft)]) Ns) ∧ Hid (RowA wx W7.heap.size v ((allX Ns 10).map faX)) ∧ Hid (Below W7.heap.size W7 wx) ∧ (∀ k, k < 10 → (Ns k).length ≤ L.length + 1))
    case first =>
      refine wp_region_pre (fun w' => Below W7.heap.size W7 w') (fun w' => Below W7.heap.size W7 w') (fun l => (l.drop 1).take 1 ++ (l.drop 3).take 1) [true, true] [1, 3] 7 #[false, true, false, true, false, false, false, false, false] (by kernel_rfl) (by kernel_rfl) (by kernel_rfl) (by kernel_rfl) (by kernel_rfl) ((Below.refl _ _).drew) ((Below.refl _ _).drew) ?_
      intro w0 hCw0 _
      simp only [List.take_succ_cons, List.take_zero, List.drop_succ_cons, List.drop_zero, List.cons_append, List.nil_append]
      refine mix_val (.slice A1 L.length cap1) (by rfl) (fun _ _ => by first | rfl | (go_simp; done) | (go_simp; omega)) ?_
      simp only [Act.put, List.setIfInBounds_toArray, List.set_cons_zero, List.set_cons_succ]
      refine mix_load_fact (by rfl) _ rfl fb rfl fv ft (fun w' h => Hl.row h FF.out) ?_
      simp only [Act.put, List.setIfInBounds_toArray, List.set_cons_zero, List.set_cons_succ]
      show wpAnyH _ _ _ _ _ 7 _ _ _
      refine any_of_two 0 4 (by kernel_rfl) (by rfl) (by rfl) (by rfl) (by rfl) ?_ ?_
      all_goals simp only [List.getElem_toArray, List.getElem_cons_succ, List.getElem_cons_zero]
      · have bmw1 : Below w0.heap.size w0 (w0.alloc (.cells #[] 29)) := (Below.refl _ w0).alloc (Nat.le_refl _) _
        have hem := emptyA w0 W7.heap.size hCw0.size
        have hCw1 := hCw0.trans (Below.mono bmw1 hCw0.size)
        refine wp_of_val (w0.alloc (.cells #[] 29)) (.slice (some ⟨w0.heap.size, 0, none⟩) 0 0) (by go_simp) ⟨hCw1, ?_⟩
        simp only [Act.put, List.setIfInBounds_toArray, List.set_cons_zero, List.set_cons_succ]
        have hS1 := ((R7.out.below hCw0).below bmw1)
        have hzz : (w0.alloc (.cells #[] 29)).heap.size = w0.heap.size + 1 := by simp
        have hown : ∀ j, (Value.slice (some ⟨w0.heap.size, 0, none⟩) 0 0).ownBlock = some j → j = w0.heap.size := fun j e => by cases e; rfl
        generalize w0.alloc (.cells #[] 29) = w1 at *
        generalize w0.heap.size = g0 at *
        refine any_of_two 2 4 (by kernel_rfl) (by rfl) (by rfl) (by rfl) (by rfl) ?_ ?_
        all_goals simp only [List.getElem_toArray, List.getElem_cons_succ, List.getElem_cons_zero]
        · obtain ⟨v2, w2, happ, hrow, hgr⟩ := append_facts W7.heap.size _ w1 hem hS1 hCw1.size (by simp; omega) 23
          have hCw2 := hCw1.grown hgr hCw1.size (fun j e => RowA.lt hem j e)
          refine wp_append_run _ _ 23 rfl _ _ rfl rfl happ ⟨hCw2, ?_⟩
          simp only [Act.put, List.setIfInBounds_toArray, List.set_cons_zero, List.set_cons_succ]
          refine any_of_one' 4 (by kernel_rfl) (by rfl) (by rfl) ?_
          all_goals simp only [List.getElem_toArray, List.getElem_cons_succ, List.getElem_cons_zero]
          have bmw3 : Below w2.heap.size w2 (w2.alloc (.cells (factC fv ft) 29)) := (Below.refl _ w2).alloc (Nat.le_refl _) _
          have hgw3 := heap_new w2 (.cells (factC fv ft) 29)
          have hCw3 := hCw2.trans (Below.mono bmw3 hCw2.size)
          refine wp_build_fact _ rfl (fv, ft) rfl ⟨hCw3, ?_⟩
          simp only [Act.put, List.setIfInBounds_toArray, List.set_cons_zero, List.set_cons_succ]
          have hr3 := hrow.below bmw3
          have hg3 := hgw3
          generalize w2.alloc (.cells (factC fv ft) 29) = w3 at *
          generalize w2.heap.size = g at *
          refine any_of_rest (fun l => l.drop 5) [false, false, false, true] [5, 6, 7, 8] (by kernel_rfl) (by kernel_rfl) (by kernel_rfl) (by kernel_rfl) (by kernel_rfl) hCw3 ?_
          simp only [List.drop_succ_cons, List.drop_zero]
          rw [List.nil_append] at hr3
          obtain ⟨v5, w5, happ5, hrow5, hgr5⟩ := appendA W7.heap.size w3 hr3 (fv, ft) g hg3 hCw3.size (by omega) 23
          have hCw5 := hCw3.grown hgr5 hCw3.size (fun j e => RowA.lt hr3 j e)
          obtain ⟨A5, cap5, rfl, hc5, hs5⟩ := RowA.slice hrow5
          have hL5 : (L ++ [(fv, ft)]).length ≤ 101 := by rw [List.length_append]; simp; omega
          obtain ⟨LF, hLF⟩ : ∃ LF, L ++ [(fv, ft)] = LF := ⟨_, rfl⟩
          rw [hLF] at happ5 hs5 hL5
          refine mix_append2 _ _ _ (by rfl) _ _ (by rfl) (by rfl) happ5 (by rfl) hCw5 ?_
          simp only [Act.put, List.setIfInBounds_toArray, List.set_cons_zero, List.set_cons_succ]
          refine mix_stand_callR (fun v w6 => ∃ us Ns, v = .agg (cells10 us) ∧ OfP LF Ns ∧ ∀ k, k < 10 → RowA w6 w5.heap.size (us k) ((Ns k).map faX) ∧ (Ns k).length ≤ LF.length) 11 #[.slice A5 LF.length cap5] (by rfl) (by go_simp) ((Of_calls A5 LF cap5 w5 hs5 (by omega)).mono fun e w6 ⟨us, Ns, he, h1, h2, h3⟩ => ⟨_, he, ⟨us, Ns, rfl, h1, h2⟩, hCw5.trans (Below.mono h3 hCw5.size)⟩) ?_
          rintro _ w6 ⟨us, Ns, rfl, hP6, hrs6⟩ hC6
          simp only [Act.put, List.setIfInBounds_toArray, List.set_cons_zero, List.set_cons_succ]
          refine mix_stand_callR (fun v w7 => RowA w7 w6.heap.size v (facts10 (fun k => (Ns k).map faX) 10)) 12 #[.agg (cells10 us)] (by rfl) (by go_simp) ((Facts10_calls us _ _ w6 (fun k hk => (hrs6 k hk).1) (ms_len hrs6 (by omega))).mono fun e w7 ⟨v, he, h1, h2⟩ => ⟨v, he, h1, hC6.trans (Below.mono h2 hC6.size)⟩) ?_
          intro v8 w8 hr8 hC8
          simp only [Act.put, List.setIfInBounds_toArray, List.set_cons_zero, List.set_cons_succ]
          refine mix_val v8 (by rfl) (fun _ _ => by first | rfl | (go_simp; done)) ?_
          simp only [Act.put, List.setIfInBounds_toArray, List.set_cons_zero, List.set_cons_succ]
          refine mix_done (P := Try.prog) (ops := #[]) (C := fun _ => True) ?_
          rw [facts10_all] at hr8
          have E8 := Lib.hid (RowA.base hr8 hC6.size)
          have E9 := Lib.hid (show OfP (L ++ [(fv, ft)]) Ns by rw [hLF]; exact hP6)
          have E10 := Lib.hid hC8
          have E11 := Lib.hid (show ∀ k, k < 10 → (Ns k).length ≤ L.length + 1 from fun k hk => by
            have := (hrs6 k hk).2
            rw [← hLF, List.length_append] at this
            simpa using this)
          clear hr8 hP6 hC8 hrs6 hC6 hs5 hc5 hCw5 hgr5 hrow5 happ5 hCw3 hr3 hg3
          go_wp2_with fail
          go_meet
          exact ⟨Ns, E9, E8, E10, E11.out⟩
        · have bmw2 : Below w1.heap.size w1 (w1.alloc (.cells (factC fv ft) 29)) := (Below.refl _ w1).alloc (Nat.le_refl _) _
          have hgw2 := heap_new w1 (.cells (factC fv ft) 29)
          have hCw2 := hCw1.trans (Below.mono bmw2 hCw1.size)
          refine wp_build_fact _ rfl (fv, ft) rfl ⟨hCw2, ?_⟩
          simp only [Act.put, List.setIfInBounds_toArray, List.set_cons_zero, List.set_cons_succ]
          have hem2 := hem.below bmw2
          have hS2 := hS1.below bmw2
          refine any_of_one' 2 (by kernel_rfl) (by rfl) (by rfl) ?_
          all_goals simp only [List.getElem_toArray, List.getElem_cons_succ, List.getElem_cons_zero]
          obtain ⟨v2, w3, happ, hrow, hgr⟩ := append_facts W7.heap.size _ (w1.alloc (.cells (factC fv ft) 29)) hem2 hS2 hCw2.size (by simp; omega) 23
          have hCw3 := hCw2.grown hgr hCw2.size (fun j e => RowA.lt hem2 j e)
          refine wp_append_run _ _ 23 rfl _ _ rfl rfl happ ⟨hCw3, ?_⟩
          simp only [Act.put, List.setIfInBounds_toArray, List.set_cons_zero, List.set_cons_succ]
          have hr3 := hrow
          have hg3 := (hgr.block w1.heap.size (Array.getElem?_eq_some_iff.1 hgw2).1 (fun e => by have := hown _ e.symm; omega)).trans hgw2
          generalize w1.heap.size = g at *
          refine any_of_rest (fun l => l.drop 5) [false, false, false, true] [5, 6, 7, 8] (by kernel_rfl) (by kernel_rfl) (by kernel_rfl) (by kernel_rfl) (by kernel_rfl) hCw3 ?_
          simp only [List.drop_succ_cons, List.drop_zero]
          rw [List.nil_append] at hr3
          obtain ⟨v5, w5, happ5, hrow5, hgr5⟩ := appendA W7.heap.size w3 hr3 (fv, ft) g hg3 hCw3.size (by omega) 23
          have hCw5 := hCw3.grown hgr5 hCw3.size (fun j e => RowA.lt hr3 j e)
          obtain ⟨A5, cap5, rfl, hc5, hs5⟩ := RowA.slice hrow5
          have hL5 : (L ++ [(fv, ft)]).length ≤ 101 := by rw [List.length_append]; simp; omega
          obtain ⟨LF, hLF⟩ : ∃ LF, L ++ [(fv, ft)] = LF := ⟨_, rfl⟩
          rw [hLF] at happ5 hs5 hL5
          refine mix_append2 _ _ _ (by rfl) _ _ (by rfl) (by rfl) happ5 (by rfl) hCw5 ?_
          simp only [Act.put, List.setIfInBounds_toArray, List.set_cons_zero, List.set_cons_succ]
          refine mix_stand_callR (fun v w6 => ∃ us Ns, v = .agg (cells10 us) ∧ OfP LF Ns ∧ ∀ k, k < 10 → RowA w6 w5.heap.size (us k) ((Ns k).map faX) ∧ (Ns k).length ≤ LF.length) 11 #[.slice A5 LF.length cap5] (by rfl) (by go_simp) ((Of_calls A5 LF cap5 w5 hs5 (by omega)).mono fun e w6 ⟨us, Ns, he, h1, h2, h3⟩ => ⟨_, he, ⟨us, Ns, rfl, h1, h2⟩, hCw5.trans (Below.mono h3 hCw5.size)⟩) ?_
          rintro _ w6 ⟨us, Ns, rfl, hP6, hrs6⟩ hC6
          simp only [Act.put, List.setIfInBounds_toArray, List.set_cons_zero, List.set_cons_succ]
          refine mix_stand_callR (fun v w7 => RowA w7 w6.heap.size v (facts10 (fun k => (Ns k).map faX) 10)) 12 #[.agg (cells10 us)] (by rfl) (by go_simp) ((Facts10_calls us _ _ w6 (fun k hk => (hrs6 k hk).1) (ms_len hrs6 (by omega))).mono fun e w7 ⟨v, he, h1, h2⟩ => ⟨v, he, h1, hC6.trans (Below.mono h2 hC6.size)⟩) ?_
          intro v8 w8 hr8 hC8
          simp only [Act.put, List.setIfInBounds_toArray, List.set_cons_zero, List.set_cons_succ]
          refine mix_val v8 (by rfl) (fun _ _ => by first | rfl | (go_simp; done)) ?_
          simp only [Act.put, List.setIfInBounds_toArray, List.set_cons_zero, List.set_cons_succ]
          refine mix_done (P := Try.prog) (ops := #[]) (C := fun _ => True) ?_
          rw [facts10_all] at hr8
          have E8 := Lib.hid (RowA.base hr8 hC6.size)
          have E9 := Lib.hid (show OfP (L ++ [(fv, ft)]) Ns by rw [hLF]; exact hP6)
          have E10 := Lib.hid hC8
          have E11 := Lib.hid (show ∀ k, k < 10 → (Ns k).length ≤ L.length + 1 from fun k hk => by
            have := (hrs6 k hk).2
            rw [← hLF, List.length_append] at this
            simpa using this)
          clear hr8 hP6 hC8 hrs6 hC6 hs5 hc5 hCw5 hgr5 hrow5 happ5 hCw3 hr3 hg3
          go_wp2_with fail
          go_meet
          exact ⟨Ns, E9, E8, E10, E11.out⟩
      · have bmw1 : Below w0.heap.size w0 (w0.alloc (.cells (factC fv ft) 29)) := (Below.refl _ w0).alloc (Nat.le_refl _) _
        have hgw1 := heap_new w0 (.cells (factC fv ft) 29)
        have hCw1 := hCw0.trans (Below.mono bmw1 hCw0.size)
        refine wp_build_fact _ rfl (fv, ft) rfl ⟨hCw1, ?_⟩
        simp only [Act.put, List.setIfInBounds_toArray, List.set_cons_zero, List.set_cons_succ]
        have hS1 := ((R7.out.below hCw0).below bmw1)
        have hz1 : w0.heap.size < (w0.alloc (.cells (factC fv ft) 29)).heap.size := (Array.getElem?_eq_some_iff.1 hgw1).1
        generalize w0.alloc (.cells (factC fv ft) 29) = w1 at *
        generalize w0.heap.size = g at *
        refine any_of_one' 0 (by kernel_rfl) (by rfl) (by rfl) ?_
        all_goals simp only [List.getElem_toArray, List.getElem_cons_zero]
        have bmw2 : Below w1.heap.size w1 (w1.alloc (.cells #[] 29)) := (Below.refl _ w1).alloc (Nat.le_refl _) _
        have hem := emptyA w1 W7.heap.size hCw1.size
        have hCw2 := hCw1.trans (Below.mono bmw2 hCw1.size)
        refine wp_of_val (w1.alloc (.cells #[] 29)) (.slice (some ⟨w1.heap.size, 0, none⟩) 0 0) (by go_simp) ⟨hCw2, ?_⟩
        simp only [Act.put, List.setIfInBounds_toArray, List.set_cons_zero, List.set_cons_succ]
        have hS2 := hS1.below bmw2
        have hgw2 := Hl.row bmw2 hgw1
        refine any_of_one' 2 (by kernel_rfl) (by rfl) (by rfl) ?_
        all_goals simp only [List.getElem_toArray, List.getElem_cons_succ, List.getElem_cons_zero]
        obtain ⟨v2, w3, happ, hrow, hgr⟩ := append_facts W7.heap.size _ (w1.alloc (.cells #[] 29)) hem hS2 hCw2.size (by simp; omega) 23
        have hCw3 := hCw2.grown hgr hCw2.size (fun j e => RowA.lt hem j e)
        refine wp_append_run _ _ 23 rfl _ _ rfl rfl happ ⟨hCw3, ?_⟩
        simp only [Act.put, List.setIfInBounds_toArray, List.set_cons_zero, List.set_cons_succ]
        have hr3 := hrow
        have hg3 := (hgr.block g (Array.getElem?_eq_some_iff.1 hgw2).1 (fun e => by have e2 : g = w1.heap.size := Option.some.inj e; omega)).trans hgw2
        refine any_of_rest (fun l => l.drop 5) [false, false, false, true] [5, 6, 7, 8] (by kernel_rfl) (by kernel_rfl) (by kernel_rfl) (by kernel_rfl) (by kernel_rfl) hCw3 ?_
        simp only [List.drop_succ_cons, List.drop_zero]
        rw [List.nil_append] at hr3
        obtain ⟨v5, w5, happ5, hrow5, hgr5⟩ := appendA W7.heap.size w3 hr3 (fv, ft) g hg3 hCw3.size (by omega) 23
        have hCw5 := hCw3.grown hgr5 hCw3.size (fun j e => RowA.lt hr3 j e)
        obtain ⟨A5, cap5, rfl, hc5, hs5⟩ := RowA.slice hrow5
        have hL5 : (L ++ [(fv, ft)]).length ≤ 101 := by rw [List.length_append]; simp; omega
        obtain ⟨LF, hLF⟩ : ∃ LF, L ++ [(fv, ft)] = LF := ⟨_, rfl⟩
        rw [hLF] at happ5 hs5 hL5
        refine mix_append2 _ _ _ (by rfl) _ _ (by rfl) (by rfl) happ5 (by rfl) hCw5 ?_
        simp only [Act.put, List.setIfInBounds_toArray, List.set_cons_zero, List.set_cons_succ]
        refine mix_stand_callR (fun v w6 => ∃ us Ns, v = .agg (cells10 us) ∧ OfP LF Ns ∧ ∀ k, k < 10 → RowA w6 w5.heap.size (us k) ((Ns k).map faX) ∧ (Ns k).length ≤ LF.length) 11 #[.slice A5 LF.length cap5] (by rfl) (by go_simp) ((Of_calls A5 LF cap5 w5 hs5 (by omega)).mono fun e w6 ⟨us, Ns, he, h1, h2, h3⟩ => ⟨_, he, ⟨us, Ns, rfl, h1, h2⟩, hCw5.trans (Below.mono h3 hCw5.size)⟩) ?_
        rintro _ w6 ⟨us, Ns, rfl, hP6, hrs6⟩ hC6
        simp only [Act.put, List.setIfInBounds_toArray, List.set_cons_zero, List.set_cons_succ]
        refine mix_stand_callR (fun v w7 => RowA w7 w6.heap.size v (facts10 (fun k => (Ns k).map faX) 10)) 12 #[.agg (cells10 us)] (by rfl) (by go_simp) ((Facts10_calls us _ _ w6 (fun k hk => (hrs6 k hk).1) (ms_len hrs6 (by omega))).mono fun e w7 ⟨v, he, h1, h2⟩ => ⟨v, he, h1, hC6.trans (Below.mono h2 hC6.size)⟩) ?_
        intro v8 w8 hr8 hC8
        simp only [Act.put, List.setIfInBounds_toArray, List.set_cons_zero, List.set_cons_succ]
        refine mix_val v8 (by rfl) (fun _ _ => by first | rfl | (go_simp; done)) ?_
        simp only [Act.put, List.setIfInBounds_toArray, List.set_cons_zero, List.set_cons_succ]
        refine mix_done (P := Try.prog) (ops := #[]) (C := fun _ => True) ?_
        rw [facts10_all] at hr8
        have E8 := Lib.hid (RowA.base hr8 hC6.size)
        have E9 := Lib.hid (show OfP (L ++ [(fv, ft)]) Ns by rw [hLF]; exact hP6)
        have E10 := Lib.hid hC8
        have E11 := Lib.hid (show ∀ k, k < 10 → (Ns k).length ≤ L.length + 1 from fun k hk => by
          have := (hrs6 k hk).2
          rw [← hLF, List.length_append] at this
          simpa using this)
        clear hr8 hP6 hC8 hrs6 hC6 hs5 hc5 hCw5 hgr5 hrow5 happ5 hCw3 hr3 hg3
        go_wp2_with fail
        go_meet
        exact ⟨Ns, E9, E8, E10, E11.out⟩
    case rest =>
      obtain ⟨Ns, P2, R2, D2, hNl⟩ := hcut
      have FF := Lib.hid (Hl.row D2.out FF.out)
      have S7 := Lib.hid (S7.out.keep D2.out)
      have BW := Lib.hid (BW.out.trans (Below.mono D2.out BW.out.size))
      have hBl := facts10_len (fun k => (Ns k).map faX) (fun k hk => by have := hNl k hk; rw [List.length_map]; omega) 10 (by omega)
      rw [facts10_all] at hBl
      obtain ⟨FB, hFB⟩ : ∃ FB, (allX Ns 10).map faX = FB := ⟨_, rfl⟩
      rw [hFB] at R2 hBl
      have HFB := Lib.hid hFB
      obtain ⟨A8, cap8, rfl, hc8, hs8⟩ := RowA.slice R2.out
      have S8 := Lib.hid hs8
      clear hFB hs8 R2 D2 R7 hNl
      obtain ⟨c, hc⟩ : ∃ c, okT fv ft = c := ⟨_, rfl⟩
      have HVc := Lib.hid (fun W => Valid_eq fv ft c hc W)
      have HOK := Lib.hid hc
      clear hc
      cases c with
      | false =>
        obtain rfl : FA = FB := by rw [← HFA2.out, ← HFB.out, base_off HOK.out P1.out P2.out]
        have HSF := Lib.hid (fun W (hb : Below wc.heap.size wc W) => sameF_calls FA A7 A8 cap7 cap8 W (S7.out.keep hb) (S8.out.keep hb) (by omega))
        go_wp2_with (refine wpList_load_fact rfl _ rfl fb rfl fv ft FF.out ?_)
        refine (HVc.out wc).mono ?_
        rintro e W10 ⟨rfl, b10⟩
        have hcal := HSF.out W10 b10
        have BW10 := Lib.hid (BW.out.trans (Below.mono b10 BW.out.size))
        clear b10 HSF
        go_wp2_with fail
        refine hcal.mono ?_
        rintro e W11 ⟨rfl, b11⟩
        go_wp2_with fail
        go_ret
        exact ⟨rfl, BW10.out.trans (Below.mono b11 BW10.out.size)⟩
      | true =>
        have hlA := all_lst P1.out
        have hlB := all_lst P2.out
        rw [List.map_append] at hlB
        have hlB : Bs.Lst okX keyX pvX ltK (fun _ => True) (L.map nfX ++ [nfX (fv, ft)]) (allX Ns 10) := hlB
        have hokf : okX (nfX (fv, ft)) = true := (ok_nf (fv, ft)).trans HOK.out
        obtain ⟨A, hA⟩ : ∃ A, allX Ms 10 = A := ⟨_, rfl⟩
        obtain ⟨B, hB⟩ : ∃ B, allX Ns 10 = B := ⟨_, rfl⟩
        rw [hA] at hlA HFA2
        rw [hB] at hlB HFB
        have HLA := Lib.hid hlA
        have HLB := Lib.hid hlB
        have HOF := Lib.hid hokf
        have hla : FA.length = A.length := by rw [← HFA2.out, List.length_map]
        have hlb : FB.length = B.length := by rw [← HFB.out, List.length_map]
        have HEA := Lib.hid (fun i (hi : i < FA.length) => elem_at HFA2.out hi)
        have HEB := Lib.hid (fun i (hi : i < FB.length) => elem_at HFB.out hi)
        have HKK := Lib.hid (fun x => kyB_key fv ft x)
        have HPV := Lib.hid (fun x => pv_nf (fv, ft) x)
        obtain ⟨K, hK⟩ : ∃ K, keyX (nfX (fv, ft)) = K := ⟨_, rfl⟩
        have HKE := Lib.hid hK
        rw [hK] at HKK
        clear hlA hlB hA hB hK hokf
        go_wp2_with (refine wpList_load_fact rfl _ rfl fb rfl fv ft FF.out ?_)
        refine (HVc.out wc).mono ?_
        rintro e W10 ⟨rfl, b10⟩
        have FF := Lib.hid (Hl.row b10 FF.out)
        have S7 := Lib.hid (S7.out.keep b10)
        have S8 := Lib.hid (S8.out.keep b10)
        have BW := Lib.hid (BW.out.trans (Below.mono b10 BW.out.size))
        clear b10 HVc
        have hone := factC_one fv ft
        go_upto_region 14 with (first
          | (refine wpList_load_fact rfl _ rfl fb rfl fv ft FF.out ?_)
          | (refine wpList_store_row rfl 29 _ _ rfl W10.heap.size (factC fv ft) rfl rfl 29 (factC (fun _ => 0) ⟨#[]⟩) (heap_new W10 _) (hiC _ _) rfl hone ?_))
        obtain ⟨W11, hW11, f11, b11⟩ := box_new W10 (factC (fun _ => 0) ⟨#[]⟩) (factC fv ft) 29
        rw [hW11]
        try simp only [Act.put]
        have G0 := Lib.hid f11
        have B11 := Lib.hid b11
        have hz11 : W10.heap.size < W11.heap.size := (Array.getElem?_eq_some_iff.1 f11).1
        clear hW11 f11 b11 hone
        generalize hg14 : W10.heap.size = g14 at *
        have HG14 := Lib.hid hg14
        clear hg14
        go_loopw [17, 15, 16] (fun iv kv rv wr => ∃ i : Nat, i ≤ FA.length ∧ iv = .int .i64 i ∧ kv = .bool ((A.take i).any (fun x => decide (keyX x = K))) ∧ Hid (RowA wr W11.heap.size rv (((A.take i).filter (fun x => decide (keyX x ≠ K))).map faX)) ∧ Hid (Below g14 W10 wr) ∧ Hid (W11.heap.size ≤ wr.heap.size) ∧ ∃ wf : Fa, Hid (wr.heap[g14]? = some (.cells (factC wf.1 wf.2) 29 (0, 0))) ∧ Hid (WantP fv ft K (A.take i) wf)) (fun iv _ _ _ => FA.length - (intOf iv).toNat)
        case atStart => exact ⟨0, by omega, rfl, rfl, Lib.hid (RowA.nil _ _), B11, Lib.hid (Nat.le_refl _), (fv, ft), G0, Lib.hid ⟨fun _ => rfl, fun x hx => by cases hx⟩⟩
        case round =>
          clear G0 B11
          obtain ⟨i, hi, rfl, rfl, HR, HW, HZ, wf, GW, WP⟩ := hrel
          have i0 : (0 : Int) ≤ (i : Int) := by omega
          have BWr : Below W10.heap.size W10 wr := by rw [HG14.out]; exact HW.out
          have hg4 : g14 ≤ wr.heap.size := by have := HW.out.size; have := HG14.out; omega
          by_cases hlt : i < FA.length
          rotate_left
          · have hie : i = FA.length := by omega
            have e : A.take i = A := List.take_of_length_le (by rw [hie, hla]; exact Nat.le_refl _)
            have HKN := Lib.hid (show (A.take i).any (fun x => decide (keyX x = K)) = A.any (fun x => decide (keyX x = K)) by rw [e])
            generalize (A.take i).any (fun x => decide (keyX x = K)) = kn at *
            rw [e] at HR WP
            have HSW : Hid (∀ y ∈ B, keyX y = K → eqB (faX y).1 wf.1 (faX y).2 wf.2 = true) := Lib.hid (fun y hy hk => same_want HOF.out HLA.out HLB.out (by rw [HKE.out]; exact WP.out) hy (hk.trans HKE.out.symm))
            have HSZ : Hid (FB.length = if kn = true then FA.length else FA.length + 1) := Lib.hid (by
              have := size_key HOF.out HLA.out HLB.out
              rw [HKE.out, ← HKN.out, ← hla, ← hlb] at this
              exact this)
            have HFN : Hid (B.any (fun x => decide (keyX x = K)) = true) := Lib.hid (by
              have := has_key HOF.out HLB.out
              rw [HKE.out] at this
              exact this)
            have HRE : Hid ((A.filter (fun x => decide (keyX x ≠ K))).map faX = (B.filter (fun x => decide (keyX x ≠ K))).map faX) := Lib.hid (by
              have := Bs.add_filter orderK HLA.out HLB.out
              rw [HKE.out] at this
              rw [this])
            have hRL : ((A.filter (fun x => decide (keyX x ≠ K))).map faX).length ≤ FA.length := by
              rw [List.length_map, hla]; exact List.length_filter_le _ _
            obtain ⟨RL, hRL2⟩ : ∃ RL, (A.filter (fun x => decide (keyX x ≠ K))).map faX = RL := ⟨_, rfl⟩
            rw [hRL2] at HR HRE hRL
            obtain ⟨A13, cap13, rfl, hc13, hs13⟩ := RowA.slice HR.out
            have S13 := Lib.hid hs13
            have S8 := Lib.hid (S8.out.keep BWr)
            have FF := Lib.hid (Hl.row BWr FF.out)
            have BW := Lib.hid (BW.out.trans (Below.mono BWr BW.out.size))
            obtain ⟨wv, wt⟩ := wf
            clear hRL2 hs13 HR HW HZ WP HKN HLA HEA HFA2 HPV HOF HOK S7 BWr hg4 e hlt hi
            subst hie
            have k1 : (FA.length : Int) ≤ (FA.length : Int) := by omega
            rename World => w13
            go_upto_region 24 with (fail)
            go_loopw [20, 19, 18] (fun iv kv rv w2 => ∃ j : Nat, j ≤ FB.length ∧ iv = .int .i64 j ∧ kv = .bool ((B.take j).any (fun x => decide (keyX x = K))) ∧ Hid (RowA w2 w13.heap.size rv (((B.take j).filter (fun x => decide (keyX x ≠ K))).map faX)) ∧ Hid (Below w13.heap.size w13 w2)) (fun iv _ _ _ => FB.length - (intOf iv).toNat)
            case atStart => exact ⟨0, by omega, rfl, rfl, Lib.hid (RowA.nil _ _), Lib.hid (Below.refl _ _)⟩
            case round =>
              obtain ⟨j, hj, rfl, rfl, HR, HW⟩ := hrel
              have i0 : (0 : Int) ≤ (j : Int) := by omega
              by_cases hlt : j < FB.length
              rotate_left
              · have hie : j = FB.length := by omega
                have e : B.take j = B := List.take_of_length_le (by rw [hie, hlb]; exact Nat.le_refl _)
                rw [e] at HR
                have hfn : (B.take j).any (fun x => decide (keyX x = K)) = true := by rw [e]; exact HFN.out
                rw [← HRE.out] at HR
                obtain ⟨A15, cap15, rfl, hc15, hs15⟩ := RowA.slice HR.out
                have BW2 := Lib.hid (BW.out.trans (Below.mono HW.out BW.out.size))
                have HSF := Lib.hid (sameF_calls RL A13 A15 cap13 cap15 wr (S13.out.keep HW.out) hs15 (by omega))
                rw [hfn]
                clear hs15 HR HW e hfn HFN HRE HSW HLB HFB HEB HKK S13 S8 FF GW hlt hj
                subst hie
                rename World => w15
                have HSZ2 := HSZ.out
                rw [hla, hlb] at HSZ2
                rw [hlb]
                have hnm : A.length ≤ 1000000 := by omega
                clear HSZ k1 i0
                cases kn with
                | true =>
                  have hz : B.length = A.length := HSZ2
                  rw [hz]
                  have k2 : (A.length : Int) ≤ (A.length : Int) := by omega
                  clear HSZ2 hz hlb
                  go_wp2_with fail
                  refine HSF.out.mono ?_
                  rintro e W17 ⟨rfl, b17⟩
                  go_wp2_with fail
                  go_ret
                  exact ⟨rfl, BW2.out.trans (Below.mono b17 BW2.out.size)⟩
                | false =>
                  have hz : B.length = A.length + 1 := HSZ2
                  have hz2 : (B.length : Int) = (A.length : Int) + 1 := by omega
                  have k2 : (B.length : Int) ≤ (B.length : Int) := by omega
                  clear HSZ2 hz
                  go_wp2_with fail
                  refine HSF.out.mono ?_
                  rintro e W17 ⟨rfl, b17⟩
                  go_wp2_with fail
                  go_ret
                  exact ⟨rfl, BW2.out.trans (Below.mono b17 BW2.out.size)⟩
              · have i1 : (j : Int) < (FB.length : Int) := by omega
                rcases S8.out with hz | ⟨b, o, rfl, hst⟩
                · rw [hz] at hlt; exact absurd hlt (by simp)
                have hat0 := hst.keep HW.out j hlt
                obtain ⟨x, hx1, hx2, hx3, -⟩ := HEB.out j hlt
                rw [hx1] at hat0
                have hkx := HKK.out x
                have hsx := HSW.out x hx2
                obtain ⟨fx, hfx⟩ : ∃ fx, faX x = fx := ⟨_, rfl⟩
                rw [hfx] at hat0 hkx hsx
                have HFX := Lib.hid hfx
                have HX3 := Lib.hid hx3
                have HSX := Lib.hid hsx
                obtain ⟨v, s⟩ := fx
                have HAT := Lib.hid hat0
                have HK1 := Lib.hid (fun W => Key_calls v s W)
                have HK2 := Lib.hid (fun W => Key_calls fv ft W)
                clear hat0 hst hx1 hfx hx3 hsx
                have FR := Lib.hid (Hl.row HW.out FF.out)
                by_cases hke : keyX x = K
                rotate_left
                · have hkf : kyB v fv = false := hkx.trans (decide_eq_false hke)
                  have hq := fun W => key_neq v fv false hkf W
                  have HKE2 := Lib.hid hke
                  clear hkx hkf hke
                  go_upto_region 26 with (fail)
                  refine wp_region_hl wr (Hl.refl _) (by kernel_rfl) (by kernel_rfl) ?_
                  repeat (first
                    | go_big_quiet_skip
                    | (go_big_quiet_want; refine quiet_load_at _ rfl _ _ rfl _ _ HAT.out ?_; simp only [Act.put, List.setIfInBounds_toArray, List.set_cons_zero, List.set_cons_succ]; go_big_quiet_on)
                    | (go_big_quiet_want; refine quiet_load_row _ rfl _ rfl _ _ FR.out ?_; simp only [Act.put, List.setIfInBounds_toArray, List.set_cons_zero, List.set_cons_succ]; go_big_quiet_on)
                    | (go_big_quiet_want; go_big_quiet_op; first
                      | go_big_quiet_on
                      | (apply Exists.intro; (with_reducible refine ⟨fun _ => hl_call (HK1.out _), ?_⟩); go_big_quiet_on)
                      | (apply Exists.intro; (with_reducible refine ⟨fun _ => hl_call (HK2.out _), ?_⟩); go_big_quiet_on)))
                  refine wpQuiet_nil ?_
                  intro W12 h12
                  have HAT2 := Lib.hid (fun j y h => Hl.cell h12 (HAT.out j y h))
                  have hb := build_fact v s W12
                  have bb : Below W12.heap.size W12 (W12.alloc (.cells (factC v s) 29)) := (Below.refl _ W12).alloc (Nat.le_refl _) _
                  have hb3 := h12.trans (Below.mono bb h12.size)
                  have hzr : w13.heap.size ≤ wr.heap.size := HW.out.size
                  obtain ⟨v1, w1, happ, hrow, hgr⟩ := appendA w13.heap.size (W12.alloc (.cells (factC v s) 29)) (HR.out.below hb3) (v, s) W12.heap.size (heap_new W12 _) (Nat.le_trans hzr hb3.size) (by rw [List.length_map]; exact Nat.le_trans (List.length_filter_le _ _) (by rw [List.length_take]; omega)) 23
                  have HW2 := Lib.hid ((HW.out.trans (Below.mono hb3 hzr)).grown hgr (Nat.le_trans hzr hb3.size) (fun j e => RowA.lt HR.out j e))
                  have HR2 := Lib.hid (show RowA w1 w13.heap.size v1 (((B.take (j + 1)).filter (fun x => decide (keyX x ≠ K))).map faX) by
                    rw [HX3.out, List.filter_append, List.map_append, show List.filter (fun x => decide (keyX x ≠ K)) [x] = [x] by simp [HKE2.out], show List.map faX [x] = [(v, s)] by rw [List.map_cons, List.map_nil, HFX.out]]
                    exact hrow)
                  have HAN := Lib.hid (show (B.take (j + 1)).any (fun x => decide (keyX x = K)) = (B.take j).any (fun x => decide (keyX x = K)) by rw [HX3.out, List.any_append]; simp [HKE2.out])
                  generalize (B.take j).any (fun x => decide (keyX x = K)) = k2 at *
                  clear h12 bb hb3 hzr hrow hgr HR HW HAT HK1 HK2 FR HSX
                  go_wp2_with (first
                    | (refine wpList_load_at rfl _ rfl _ _ rfl v s HAT2.out ?_)
                    | (refine wpList_build1 rfl 23 (.tmp 100) rfl (.agg (factC v s)) rfl hb ?_)
                    | (at_builtin; refine wpList_append_run rfl _ _ _ rfl _ _ rfl rfl happ ?_))
                  go_roundw
                  case rel => exact ⟨j + 1, by omega, by go_num, by rw [HAN.out], HR2, HW2⟩
                  case measure => simp [intOf]; omega
                · have hkf : kyB v fv = true := hkx.trans (decide_eq_true hke)
                  have hq := fun W => key_neq v fv true hkf W
                  have HSM := Lib.hid (fun W => Same_true v wv s wt (HSX.out hke) W)
                  have HKE2 := Lib.hid hke
                  have HAN := Lib.hid (show (B.take (j + 1)).any (fun x => decide (keyX x = K)) = true by rw [HX3.out, List.any_append]; simp [HKE2.out])
                  have HR2 := Lib.hid (show (((B.take (j + 1)).filter (fun x => decide (keyX x ≠ K))).map faX) = (((B.take j).filter (fun x => decide (keyX x ≠ K))).map faX) by
                    rw [HX3.out, List.filter_append, show List.filter (fun x => decide (keyX x ≠ K)) [x] = [] by simp [HKE2.out], List.append_nil])
                  clear hkx hkf hke
                  generalize (B.take j).any (fun x => decide (keyX x = K)) = k2 at *
                  go_upto_region 26 with (fail)
                  refine wp_region_hl wr (Hl.refl _) (by kernel_rfl) (by kernel_rfl) ?_
                  repeat (first
                    | go_big_quiet_skip
                    | (go_big_quiet_want; refine quiet_load_at _ rfl _ _ rfl _ _ HAT.out ?_; simp only [Act.put, List.setIfInBounds_toArray, List.set_cons_zero, List.set_cons_succ]; go_big_quiet_on)
                    | (go_big_quiet_want; refine quiet_load_row _ rfl _ rfl _ _ FR.out ?_; simp only [Act.put, List.setIfInBounds_toArray, List.set_cons_zero, List.set_cons_succ]; go_big_quiet_on)
                    | (go_big_quiet_want; go_big_quiet_op; first
                      | go_big_quiet_on
                      | (apply Exists.intro; (with_reducible refine ⟨fun _ => hl_call (HK1.out _), ?_⟩); go_big_quiet_on)
                      | (apply Exists.intro; (with_reducible refine ⟨fun _ => hl_call (HK2.out _), ?_⟩); go_big_quiet_on)))
                  refine wpQuiet_nil ?_
                  intro W12 h12
                  have HAT := Lib.hid (fun j y h => Hl.cell h12 (HAT.out j y h))
                  have FR := Lib.hid (Hl.row h12 (Hl.row HW.out GW.out))
                  clear hq HK1 HK2
                  go_upto_region 28 with (fail)
                  refine wp_region_hl W12 (Hl.refl _) (by kernel_rfl) (by kernel_rfl) ?_
                  repeat (first
                    | go_big_quiet_skip
                    | (go_big_quiet_want; refine quiet_load_at _ rfl _ _ rfl _ _ HAT.out ?_; simp only [Act.put, List.setIfInBounds_toArray, List.set_cons_zero, List.set_cons_succ]; go_big_quiet_on)
                    | (go_big_quiet_want; refine quiet_load_row _ rfl _ rfl _ _ FR.out ?_; simp only [Act.put, List.setIfInBounds_toArray, List.set_cons_zero, List.set_cons_succ]; go_big_quiet_on)
                    | (go_big_quiet_want; go_big_quiet_op; first
                      | go_big_quiet_on
                      | (apply Exists.intro; (with_reducible refine ⟨fun _ => hl_call (HSM.out _), ?_⟩); go_big_quiet_on)))
                  refine wpQuiet_nil ?_
                  intro W14 h14
                  have h24 := h12.trans (Below.mono h14 h12.size)
                  have HW2 := Lib.hid (HW.out.trans (Below.mono h24 HW.out.size))
                  have HR3 := Lib.hid (HR.out.below h24)
                  clear h12 h14 h24 HR HW HAT FR HSM HSX
                  go_wp2_with fail
                  go_roundw
                  case rel => exact ⟨j + 1, by omega, by go_num, by rw [HAN.out], by rw [HR2.out]; exact HR3, HW2⟩
                  case measure => simp [intOf]; omega
          · have i1 : (i : Int) < (FA.length : Int) := by omega
            rcases S7.out with hz | ⟨b, o, rfl, hst⟩
            · rw [hz] at hlt; exact absurd hlt (by simp)
            have hat0 := hst.keep BWr i hlt
            obtain ⟨x, hx1, hx2, hx3, -⟩ := HEA.out i hlt
            rw [hx1] at hat0
            have hkx := HKK.out x
            have hpx := HPV.out x
            obtain ⟨fx, hfx⟩ : ∃ fx, faX x = fx := ⟨_, rfl⟩
            rw [hfx] at hat0 hkx hpx
            have HFX := Lib.hid hfx
            have HX3 := Lib.hid hx3
            have HPX := Lib.hid hpx
            obtain ⟨v, s⟩ := fx
            have HAT := Lib.hid hat0
            have HK1 := Lib.hid (fun W => Key_calls v s W)
            have HK2 := Lib.hid (fun W => Key_calls fv ft W)
            clear hat0 hst hx1 hfx hx3 hpx
            have FR := Lib.hid (Hl.row BWr FF.out)
            by_cases hke : keyX x = K
            rotate_left
            · have hkf : kyB v fv = false := hkx.trans (decide_eq_false hke)
              have hq := fun W => key_neq v fv false hkf W
              have HKE2 := Lib.hid hke
              clear hkx hkf hke
              go_upto_region 16 with (fail)
              refine wp_region_hl wr (Hl.refl _) (by kernel_rfl) (by kernel_rfl) ?_
              repeat (first
                | go_big_quiet_skip
                | (go_big_quiet_want; refine quiet_load_at _ rfl _ _ rfl _ _ HAT.out ?_; simp only [Act.put, List.setIfInBounds_toArray, List.set_cons_zero, List.set_cons_succ]; go_big_quiet_on)
                | (go_big_quiet_want; refine quiet_load_row _ rfl _ rfl _ _ FR.out ?_; simp only [Act.put, List.setIfInBounds_toArray, List.set_cons_zero, List.set_cons_succ]; go_big_quiet_on)
                | (go_big_quiet_want; go_big_quiet_op; first
                  | go_big_quiet_on
                  | (apply Exists.intro; (with_reducible refine ⟨fun _ => hl_call (HK1.out _), ?_⟩); go_big_quiet_on)
                  | (apply Exists.intro; (with_reducible refine ⟨fun _ => hl_call (HK2.out _), ?_⟩); go_big_quiet_on)))
              refine wpQuiet_nil ?_
              intro W12 h12
              have HAT2 := Lib.hid (fun j y h => Hl.cell h12 (HAT.out j y h))
              have hb := build_fact v s W12
              have bb : Below W12.heap.size W12 (W12.alloc (.cells (factC v s) 29)) := (Below.refl _ W12).alloc (Nat.le_refl _) _
              have hb3 := h12.trans (Below.mono bb h12.size)
              have hzr : W11.heap.size ≤ wr.heap.size := HZ.out
              have hzz : W11.heap.size ≤ (W12.alloc (.cells (factC v s) 29)).heap.size := Nat.le_trans hzr hb3.size
              obtain ⟨v1, w1, happ, hrow, hgr⟩ := appendA W11.heap.size (W12.alloc (.cells (factC v s) 29)) (HR.out.below hb3) (v, s) W12.heap.size (heap_new W12 _) hzz (by rw [List.length_map]; exact Nat.le_trans (List.length_filter_le _ _) (by rw [List.length_take]; omega)) 23
              have HW2 := Lib.hid ((HW.out.trans (Below.mono hb3 hg4)).grown hgr (Nat.le_trans hg4 hb3.size) (fun j e => by have := RowA.lt HR.out j e; omega))
              have GW2 := Lib.hid ((hgr.block g14 (by omega) (fun e => by have := RowA.lt HR.out g14 e.symm; omega)).trans (Hl.row hb3 GW.out))
              have HZ2 := Lib.hid (Nat.le_trans hzz hgr.size)
              have HR2 := Lib.hid (show RowA w1 W11.heap.size v1 (((A.take (i + 1)).filter (fun x => decide (keyX x ≠ K))).map faX) by
                rw [HX3.out, List.filter_append, List.map_append, show List.filter (fun x => decide (keyX x ≠ K)) [x] = [x] by simp [HKE2.out], show List.map faX [x] = [(v, s)] by rw [List.map_cons, List.map_nil, HFX.out]]
                exact hrow)
              have HAN := Lib.hid (show (A.take (i + 1)).any (fun x => decide (keyX x = K)) = (A.take i).any (fun x => decide (keyX x = K)) by rw [HX3.out, List.any_append]; simp [HKE2.out])
              have WP2 := Lib.hid (show WantP fv ft K (A.take (i + 1)) wf by
                rw [HX3.out]
                refine ⟨fun h => WP.out.1 (fun y hy => h y (List.mem_append.2 (.inl hy))), fun y hy hk => ?_⟩
                rcases List.mem_append.1 hy with hy | hy
                · exact WP.out.2 y hy hk
                · rw [List.mem_singleton.1 hy] at hk; exact absurd hk HKE2.out)
              generalize (A.take i).any (fun x => decide (keyX x = K)) = kn at *
              clear h12 bb hb3 hzr hzz hrow hgr HR HW GW WP HZ HAT HK1 HK2 FR
              go_wp2_with (first
                | (refine wpList_load_at rfl _ rfl _ _ rfl v s HAT2.out ?_)
                | (refine wpList_build1 rfl 23 (.tmp 68) rfl (.agg (factC v s)) rfl hb ?_)
                | (at_builtin; refine wpList_append_run rfl _ _ _ rfl _ _ rfl rfl happ ?_))
              go_roundw
              case rel => exact ⟨i + 1, by omega, by go_num, by rw [HAN.out], HR2, HW2, HZ2, wf, GW2, WP2⟩
              case measure => simp [intOf]; omega
            · have hkf : kyB v fv = true := hkx.trans (decide_eq_true hke)
              have hq := fun W => key_neq v fv true hkf W
              have HKE2 := Lib.hid hke
              have hwf : wf = (fv, ft) := WP.out.1 (fun y hy => by
                have h1 := HLA.out.1
                have h2 : Bs.Asc keyX ltK (A.take (i + 1)) := List.Pairwise.sublist (List.take_sublist _ _) h1
                rw [HX3.out] at h2
                have h3 := (List.pairwise_append.1 h2).2.2 y hy x (by simp)
                intro e
                rw [e, HKE2.out, orderK.irr] at h3; cases h3)
              subst hwf
              have HAN := Lib.hid (show (A.take (i + 1)).any (fun x => decide (keyX x = K)) = true by rw [HX3.out, List.any_append]; simp [HKE2.out])
              have HR2 := Lib.hid (show (((A.take (i + 1)).filter (fun x => decide (keyX x ≠ K))).map faX) = (((A.take i).filter (fun x => decide (keyX x ≠ K))).map faX) by
                rw [HX3.out, List.filter_append, show List.filter (fun x => decide (keyX x ≠ K)) [x] = [] by simp [HKE2.out], List.append_nil])
              have WP2 := Lib.hid (show ∀ wf', (wf' = if pvX (nfX (fv, ft)) x = true then (fv, ft) else faX x) → WantP fv ft K (A.take (i + 1)) wf' from fun wf' hw => by
                rw [HX3.out]
                refine ⟨fun h => absurd HKE2.out (h x (List.mem_append.2 (.inr (by simp)))), fun y hy hk => ?_⟩
                have e : y = x := Bs.asc_one orderK HLA.out.1 (List.mem_of_mem_take (by rw [HX3.out]; exact hy)) (List.mem_of_mem_take (by rw [HX3.out]; simp)) (hk.trans HKE2.out.symm)
                rw [e]; exact hw)
              clear hkx hkf hke
              generalize (A.take i).any (fun x => decide (keyX x = K)) = kn at *
              go_upto_region 16 with (fail)
              refine wp_region_hl wr (Hl.refl _) (by kernel_rfl) (by kernel_rfl) ?_
              repeat (first
                | go_big_quiet_skip
                | (go_big_quiet_want; refine quiet_load_at _ rfl _ _ rfl _ _ HAT.out ?_; simp only [Act.put, List.setIfInBounds_toArray, List.set_cons_zero, List.set_cons_succ]; go_big_quiet_on)
                | (go_big_quiet_want; refine quiet_load_row _ rfl _ rfl _ _ FR.out ?_; simp only [Act.put, List.setIfInBounds_toArray, List.set_cons_zero, List.set_cons_succ]; go_big_quiet_on)
                | (go_big_quiet_want; go_big_quiet_op; first
                  | go_big_quiet_on
                  | (apply Exists.intro; (with_reducible refine ⟨fun _ => hl_call (HK1.out _), ?_⟩); go_big_quiet_on)
                  | (apply Exists.intro; (with_reducible refine ⟨fun _ => hl_call (HK2.out _), ?_⟩); go_big_quiet_on)))
              refine wpQuiet_nil ?_
              intro W12 h12
              have HAT := Lib.hid (fun j y h => Hl.cell h12 (HAT.out j y h))
              have FR := Lib.hid (Hl.row h12 FR.out)
              clear hq HK1 HK2
              cases hp : pvB fv ft v s with
              | true =>
                have HPc := Lib.hid (fun W => Prevails_eq fv v ft s true hp W)
                have HWW := Lib.hid (WP2.out (fv, ft) (by rw [if_pos (HPX.out.trans hp)]))
                clear hp
                go_upto_region 19 with (fail)
                refine wp_region_hl W12 (Hl.refl _) (by kernel_rfl) (by kernel_rfl) ?_
                repeat (first
                  | go_big_quiet_skip
                  | (go_big_quiet_want; refine quiet_load_at _ rfl _ _ rfl _ _ HAT.out ?_; simp only [Act.put, List.setIfInBounds_toArray, List.set_cons_zero, List.set_cons_succ]; go_big_quiet_on)
                  | (go_big_quiet_want; refine quiet_load_row _ rfl _ rfl _ _ FR.out ?_; simp only [Act.put, List.setIfInBounds_toArray, List.set_cons_zero, List.set_cons_succ]; go_big_quiet_on)
                  | (go_big_quiet_want; go_big_quiet_op; first
                    | go_big_quiet_on
                    | (apply Exists.intro; (with_reducible refine ⟨fun _ => hl_call (HPc.out _), ?_⟩); go_big_quiet_on)))
                refine wpQuiet_nil ?_
                intro W14 h14
                have h24 := h12.trans (Below.mono h14 h12.size)
                have HW2 := Lib.hid (HW.out.trans (Below.mono h24 hg4))
                have GW2 := Lib.hid (Hl.row h24 GW.out)
                have HR3 := Lib.hid (HR.out.below h24)
                have HZ2 := Lib.hid (Nat.le_trans HZ.out h24.size)
                clear h12 h14 h24 HR HW GW WP HZ HPc HAT FR
                go_wp2_with fail
                go_roundw
                case rel => exact ⟨i + 1, by omega, by go_num, by rw [HAN.out], by rw [HR2.out]; exact HR3, HW2, HZ2, (fv, ft), GW2, HWW⟩
                case measure => simp [intOf]; omega
              | false =>
                have HPc := Lib.hid (fun W => Prevails_eq fv v ft s false hp W)
                have HWW := Lib.hid (WP2.out (v, s) (by rw [if_neg (by rw [HPX.out, hp]; decide), HFX.out]))
                clear hp
                go_upto_region 19 with (fail)
                refine wp_region_hl W12 (Hl.refl _) (by kernel_rfl) (by kernel_rfl) ?_
                repeat (first
                  | go_big_quiet_skip
                  | (go_big_quiet_want; refine quiet_load_at _ rfl _ _ rfl _ _ HAT.out ?_; simp only [Act.put, List.setIfInBounds_toArray, List.set_cons_zero, List.set_cons_succ]; go_big_quiet_on)
                  | (go_big_quiet_want; refine quiet_load_row _ rfl _ rfl _ _ FR.out ?_; simp only [Act.put, List.setIfInBounds_toArray, List.set_cons_zero, List.set_cons_succ]; go_big_quiet_on)
                  | (go_big_quiet_want; go_big_quiet_op; first
                    | go_big_quiet_on
                    | (apply Exists.intro; (with_reducible refine ⟨fun _ => hl_call (HPc.out _), ?_⟩); go_big_quiet_on)))
                refine wpQuiet_nil ?_
                intro W14 h14
                have h24 := h12.trans (Below.mono h14 h12.size)
                have HAT2 := Lib.hid (fun j y h => Hl.cell h14 (HAT.out j y h))
                have GW2 := Lib.hid (Hl.row h24 GW.out)
                have hgs := setRow_grown W14 g14 (factC v s)
                have HW2 := Lib.hid (below_setRow' (HW.out.trans (Below.mono h24 hg4)) g14 (factC v s) (Nat.le_refl _))
                have GW3 := Lib.hid (setRow_heap _ g14 _ (factC v s) 29 (0, 0) GW2.out)
                have HR3 := Lib.hid (World.ownsRow.kept (HR.out.below h24) hgs (.inr (fun e2 => by have := RowA.lt HR.out _ e2; omega)))
                have HZ2 := Lib.hid (Nat.le_trans (Nat.le_trans HZ.out h24.size) hgs.size)
                have hone := factC_one v s
                clear h12 h14 h24 HR HW GW WP HZ HPc HAT FR hgs
                go_wp2_with (first
                  | (refine wpList_load_at rfl _ rfl _ _ rfl v s HAT2.out ?_)
                  | (refine wpList_store_row rfl 29 _ _ rfl g14 (factC v s) rfl rfl 29 _ GW2.out (hiC _ _) rfl hone ?_))
                go_roundw
                case rel => exact ⟨i + 1, by omega, by go_num, by rw [HAN.out], by rw [HR2.out]; exact HR3, HW2, HZ2, (v, s), GW3, HWW⟩
                case measure => simp [intOf]; omega
end Go.Proofs.Ytngkfopdlkddnaa
