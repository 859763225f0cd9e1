/- The walk of BaseOrder. -/
import Derived.Test.YtngkfopdlkddnaaK37
namespace Go.Proofs.Ytngkfopdlkddnaa
open Go Go.RowKit Go.Maps
theorem facts_row {w : World} {base g n cap : Nat} {l : List Fa} (h : RowA w base (.slice (some ⟨g, 0, none⟩) n cap) l) : FactsS w (some ⟨g, 0, none⟩) l := by
  obtain ⟨A, c, e, _, hs⟩ := RowA.slice h
  cases e; exact hs
theorem facts_at0 {w : World} {g : Nat} {l : List Fa} (h : FactsS w (some ⟨g, 0, none⟩) l) {i : Nat} (hi : i < l.length) : ∀ j x, (factC (l.getD i zeroA).1 (l.getD i zeroA).2)[j]? = some x → w.cell? ⟨g, i * 18 + j, none⟩ = some x := fun j x hx => by
  rcases h with h | ⟨b, o, e, hst⟩
  · rw [h] at hi; exact absurd hi (by simp)
  · cases e
    have := hst i hi j x hx
    rwa [Nat.zero_add] at this
theorem wp_load_atK {o : Oper} {a : Act} {w : World} {K : Act → World → Prop} {Q : Exit → Act → World → Prop} (x : Operand) (ho : o.op = .load 29 x) (b k : Nat) (hx : a.eval x = .pointer (some ⟨b, k, none⟩)) (v : Nat → Int) (t : ByteArray)
    (hg : ∀ j x, (factC v t)[j]? = some x → w.cell? ⟨b, k + j, none⟩ = some x) (h : K (a.put o.dst (.agg (factC v t))) w) : o.wp Try.prog a w K Q := by
  have hl := run_load_at w b k v t hg
  generalize factC v t = c at *
  unfold Oper.wp execOp
  simp only [ho, hx, Instr.loadAt, Instr.sureAddr, Sem.run_bind, Sem.run_pure, Result.andThen_ok, hl]
  exact h
set_option maxRecDepth 100000 in
set_option maxHeartbeats 8000000 in
theorem order_walk (AX : Option Addr) (xs : List (Nat → Int)) (capX : Nat) (AR : Option Addr) (raw : List Fa) (capR : Nat) (AO : Option Addr) (os : List Int) (capO : Nat) (w : World)
    (hX : SixS w AX xs) (hx : ∀ x ∈ xs, In6 x) (hlx : xs.length ≤ 9223372036854775807) (hR : FactsS w AR raw) (hlr : raw.length ≤ 9223372036854775807) (hO : IntsS w AO os) (hxO : ∀ x ∈ os, -9223372036854775808 ≤ x ∧ x ≤ 9223372036854775807) (_hlO : os.length ≤ 9223372036854775807) :
    Calls Try.prog 3 #[.slice AX xs.length capX, .slice AR raw.length capR, .slice AO os.length capO] w fun e W' => e = .returned (.bool true) ∧ Below w.heap.size w W' := by
  have HF := Lib.hid (fun W (h : Below w.heap.size w W) => facts_calls AX xs capX AR raw capR W (hX.keep h) hx hlx (hR.keep h) hlr)
  have HO := Lib.hid hO
  have HXO := Lib.hid hxO
  have hL := factsF_len xs raw
  generalize factsF xs raw = L at *
  clear hX hx hlx hR hlr hO hxO
  go_enter Try.func3, Try.ntmps3
  go_wp2_with fail
  refine (sane_calls w).mono ?_
  rintro e W1 ⟨rfl, b1⟩
  have B1 := Lib.hid b1
  clear b1
  go_wp2_with fail
  refine (HF.out W1 B1.out).mono ?_
  rintro e W2 ⟨v, rfl, hrow, b2⟩
  obtain ⟨A2, cap2, rfl, hc2, hst⟩ := RowA.slice hrow
  have HL := Lib.hid hst
  have B2 := Lib.hid (B1.out.trans (Below.mono b2 B1.out.size))
  have b3 : Below W2.heap.size W2 (W2.alloc (.cells #[] 29)) := (Below.refl _ W2).alloc (Nat.le_refl _) _
  have hem := emptyA W2 W2.heap.size (Nat.le_refl _)
  obtain ⟨v3, W3, happ, hrow3, hgr⟩ := append_facts W2.heap.size W1.heap.size (W2.alloc (.cells #[] 29)) hem (hrow.below b3) b3.size (by simp; omega) 23
  have B3 := Lib.hid (b3.grown hgr b3.size (fun j e => RowA.lt hem j e))
  rw [List.nil_append] at hrow3
  have R3 := Lib.hid hrow3
  clear b2 b3 hem hgr hrow3 hrow hst HF B1
  go_upto_region 5 with (at_builtin; refine wpList_append_run rfl _ _ _ rfl _ _ rfl rfl happ ?_)
  go_loopw [10, 9] (fun iv mv wr => ∃ (i : Nat) (M : List Fa), i ≤ os.length ∧ i ≤ 100 ∧ iv = .int .i64 i ∧ M.length ≤ 100 + i ∧ Hid (∀ f, f ∈ M ↔ f ∈ L) ∧ Hid (RowA wr W2.heap.size mv M) ∧ Hid (Below W2.heap.size W2 wr)) (fun iv _ _ => 100 - (intOf iv).toNat)
  case atStart => exact ⟨0, L, by omega, by omega, rfl, by omega, Lib.hid (fun _ => Iff.rfl), R3, B3⟩
  case round =>
    clear R3 B3
    rename_i mv0
    obtain ⟨i, M, hi, hi100, rfl, hML, HM, HR, HW⟩ := hrel
    have i0 : (0 : Int) ≤ (i : Int) := by omega
    obtain ⟨AM, capM, rfl, hcM, hsM⟩ := RowA.slice HR.out
    have HSM := Lib.hid hsM
    clear hsM
    have hcond : (i < os.length ∧ i < 100 ∧ 0 < M.length) ∨ ¬ (i < os.length ∧ i < 100 ∧ 0 < M.length) := Decidable.em _
    rcases hcond with ⟨h1, h2, h3⟩ | hend
    rotate_left
    · have HOL := Lib.hid (fun W (hb : Below W2.heap.size W2 W) => Of_calls A2 L cap2 W (HL.out.keep hb) (by omega))
      have HOM := Lib.hid (fun W (hb : Below wr.heap.size wr W) => Of_calls AM M capM W (HSM.out.keep hb) (by omega))
      have hway : (¬ (i : Int) < (os.length : Int)) ∨ ((i : Int) < (os.length : Int) ∧ ¬ (i : Int) < 100) ∨ ((i : Int) < (os.length : Int) ∧ (i : Int) < 100 ∧ ¬ (0 : Int) < (M.length : Int)) := by omega
      clear hend
      rcases hway with i1 | ⟨i1, i2⟩ | ⟨i1, i2, i3⟩
      all_goals
        go_wp2_with fail
        refine (HOL.out wr HW.out).mono ?_
        rintro e W5 ⟨vs, Ms, rfl, hP, hrs, b5⟩
        have HP1 := Lib.hid hP
        have HS1 := Lib.hid (slB_of hrs (by omega))
        have B5 := Lib.hid (HW.out.trans (Below.mono b5 HW.out.size))
        have BM := Lib.hid b5
        clear hP hrs b5
        go_wp2_with fail
        refine (HOM.out W5 BM.out).mono ?_
        rintro e W6 ⟨us, Ns, rfl, hP2, hrs2, b6⟩
        have HBS := Lib.hid (sameB_of (base_same (fun f => (HM.out f).symm) HP1.out hP2))
        have HSB := Lib.hid (SameB_calls vs us _ _ W6 (HS1.out.below b6) (slB_of hrs2 (by omega)))
        have B6 := Lib.hid (B5.out.trans (Below.mono b6 B5.out.size))
        rw [HBS.out] at HSB
        clear hP2 hrs2 b6 HOL HOM HS1 HP1 BM
        go_wp2_with fail
        refine HSB.out.mono ?_
        rintro e W7 ⟨rfl, b7⟩
        go_wp2_with fail
        go_ret
        exact ⟨rfl, B2.out.trans (Below.mono (B6.out.trans (Below.mono b7 B6.out.size)) B2.out.size)⟩
    · have i1 : (i : Int) < (os.length : Int) := by omega
      have i2 : (i : Int) < 100 := by omega
      have l1 : (0 : Int) < (M.length : Int) := by omega
      rcases HO.out with hz | ⟨bo, oo, rfl, hso⟩
      · rw [hz] at h1; exact absurd h1 (by simp)
      have c1 : wr.cell? ⟨bo, oo + i, none⟩ = _ := (hso.keep (B2.out.trans (Below.mono HW.out B2.out.size))) i h1
      have hbx := HXO.out _ (show os.getD i 0 ∈ os by rw [List.getD_eq_getElem?_getD, List.getElem?_eq_getElem h1]; exact List.getElem_mem h1)
      have HCX := Lib.hid (show ∀ W, Below W2.heap.size W2 W → W.cell? ⟨bo, oo + i, none⟩ = some (.int .i64 (os.getD i 0)) from fun W hb => (hso.keep (B2.out.trans (Below.mono hb B2.out.size))) i h1)
      generalize os.getD i 0 = xo at *
      obtain ⟨g, rfl⟩ : ∃ g, AM = some ⟨g, 0, none⟩ := by
        rcases HR.out.2 with ⟨e, _⟩ | ⟨g, cap', cur, e, _⟩
        · injection e with e1 e2 e3; omega
        · injection e with e1 e2 e3; exact ⟨g, e1⟩
      obtain ⟨ra0, ra1⟩ := pickF_lt xo (M.length : Int) (by omega)
      obtain ⟨rb0, rb1⟩ := pickF_lt (xo.tdiv 7) (M.length : Int) (by omega)
      have hq : -9223372036854775808 ≤ xo.tdiv 7 ∧ xo.tdiv 7 ≤ 9223372036854775807 := by
        rcases Int.lt_or_le xo 0 with h | h
        · have e : xo.tdiv 7 = -((-xo) / 7) := by rw [← Int.neg_neg xo, Int.neg_tdiv, Int.neg_neg, Int.tdiv_eq_ediv_of_nonneg (by omega)]
          rw [e]; omega
        · rw [Int.tdiv_eq_ediv_of_nonneg h]; omega
      have HP1 := Lib.hid (fun W => pick_calls xo (M.length : Int) W hbx.1 hbx.2 (by omega) (by omega))
      have HP2 := Lib.hid (fun W => pick_calls (xo.tdiv 7) (M.length : Int) W hq.1 hq.2 (by omega) (by omega))
      have HP3 := Lib.hid (fun W => pick_calls xo 3 W hbx.1 hbx.2 (by omega) (by omega))
      obtain ⟨ra, hra⟩ : ∃ r : Nat, pickF xo (M.length : Int) = (r : Int) := ⟨(pickF xo (M.length : Int)).toNat, by omega⟩
      obtain ⟨rb, hrb⟩ : ∃ r : Nat, pickF (xo.tdiv 7) (M.length : Int) = (r : Int) := ⟨(pickF (xo.tdiv 7) (M.length : Int)).toNat, by omega⟩
      rw [hra] at HP1 ra0 ra1
      rw [hrb] at HP2 rb0 rb1
      obtain ⟨cc, hcc⟩ : ∃ cc, (pickF xo 3 == 0) = cc := ⟨_, rfl⟩
      generalize pickF xo 3 = p3 at *
      have HWQ := Lib.hid (show wrap64 (xo.tdiv 7) = xo.tdiv 7 from IntWalk.wrap64_in _ (by omega))
      clear hra hrb hbx hq hso happ
      have hra : ra < M.length := by omega
      have hrb : rb < M.length := by omega
      go_wp2_with fail
      refine (HP1.out wr).mono ?_
      rintro e W9' ⟨rfl, rfl⟩
      go_wp2_with fail
      rw [HWQ.out]
      refine (HP2.out wr).mono ?_
      rintro e W9' ⟨rfl, rfl⟩
      go_upto_region 9 with (fail)
      clear HP1 HP2 HWQ
      have HML := Lib.hid (show ((M.set ra (M.getD rb zeroA)).set rb (M.getD ra zeroA)).length ≤ 100 + i by rw [List.length_set, List.length_set]; exact hML)
      have HM2 := Lib.hid (fun f => (swap_mem hra hrb f).trans (HM.out f))
      have hset1 := fun W (h : RowA W W2.heap.size (.slice (some ⟨g, 0, none⟩) M.length capM) M) => setA W W2.heap.size g M.length capM M h ra hra (M.getD rb zeroA)
      have hset2 := fun W (h : RowA W W2.heap.size (.slice (some ⟨g, 0, none⟩) M.length capM) (M.set ra (M.getD rb zeroA))) => setA W W2.heap.size g M.length capM (M.set ra (M.getD rb zeroA)) h rb (by rw [List.length_set]; exact hrb) (M.getD ra zeroA)
      have hlM : ((M.set ra (M.getD rb zeroA)).set rb (M.getD ra zeroA)).length = M.length := by rw [List.length_set, List.length_set]
      have HATA := fun W (h : FactsS W (some ⟨g, 0, none⟩) M) => facts_at0 h hra
      have HATB := fun W (h : FactsS W (some ⟨g, 0, none⟩) M) => facts_at0 h hrb
      have HRD := Lib.hid (show ra < ((M.set ra (M.getD rb zeroA)).set rb (M.getD ra zeroA)).length by rw [hlM]; exact hra)
      generalize M.getD ra zeroA = fa at *
      generalize M.getD rb zeroA = fb at *
      obtain ⟨va, ta⟩ := fa
      obtain ⟨vb, tb⟩ := fb
      refine wp_region_pre (fun _ => True) (fun w' => Below wr.heap.size wr w') (fun l => l.take 7 ++ (l.drop 8).take 3) [true, true, true, true, true, true, true, true, true, true] [0, 1, 2, 3, 4, 5, 6, 8, 9, 10] 6 #[true, true, true, true, true, true, true, false, true, true, true, false, false, false, false, false] (by kernel_rfl) (by kernel_rfl) (by kernel_rfl) (by kernel_rfl) (by kernel_rfl) trivial ((Below.refl _ _).drew) ?_
      intro w0 _ hD0
      have HR0 := HR.out.below hD0
      have HAT := HATA w0 (HSM.out.keep hD0)
      have HBT := HATB w0 (HSM.out.keep hD0)
      obtain ⟨w1, hs1, hr1, hg1⟩ := hset1 w0 HR0
      obtain ⟨w6, hs2, hr2, hg2⟩ := hset2 w1 hr1
      have hbW := (HW.out.trans (Below.mono hD0 HW.out.size))
      have hgb : W2.heap.size ≤ g := RowA.lt HR.out g rfl
      have hb1 := hbW.grown hg1 hbW.size (fun j e => by cases e; exact hgb)
      have B6 := Lib.hid (hb1.grown hg2 hb1.size (fun j e => by cases e; exact hgb))
      have R6' := hr2
      obtain ⟨M2, hM2⟩ : ∃ M2, (M.set ra (vb, tb)).set rb (va, ta) = M2 := ⟨_, rfl⟩
      rw [hM2] at R6' HML HM2 HRD
      rw [hM2] at hlM
      have R6 := Lib.hid R6'
      have HAT6' := facts_at0 (facts_row R6') HRD.out
      obtain ⟨f6, hf6⟩ : ∃ f6, M2.getD ra zeroA = f6 := ⟨_, rfl⟩
      have HM3 := Lib.hid (show ∀ f, f ∈ M2 ++ [f6] ↔ f ∈ L from fun f => by
        rw [List.mem_append, List.mem_singleton, ← hf6]
        constructor
        · rintro (h | rfl)
          · exact (HM2.out f).1 h
          · exact (HM2.out _).1 (getD_mem HRD.out)
        · intro h; exact .inl ((HM2.out f).2 h))
      rw [hf6] at HAT6'
      have HAT6 := Lib.hid HAT6'
      obtain ⟨v6, t6⟩ := f6
      have c1 : w6.cell? ⟨bo, oo + i, none⟩ = some (.int .i64 xo) := HCX.out w6 B6.out
      have HML2 := HML.out
      clear HR0 hr1 hg1 hr2 hg2 hbW hgb hb1 R6' hM2 HATA HATB hset1 hset2 HM HSM HR HW hf6 HAT6' hD0 HML HRD
      have k1 : ((M2.length : Nat) : Int) = (M.length : Int) := by rw [hlM]
      simp only [List.take_succ_cons, List.take_zero, List.drop_succ_cons, List.drop_zero, List.cons_append, List.nil_append]
      refine mix_val (.slice (some ⟨g, 0, none⟩) M.length capM) (by rfl) (fun _ _ => by first | rfl | (go_simp; done) | (go_simp; omega)) ?_
      simp only [Act.put, List.setIfInBounds_toArray, List.set_cons_zero, List.set_cons_succ]
      refine mix_val (.int .i64 (ra : Int)) (by rfl) (fun _ _ => by first | rfl | (go_simp; done) | (go_simp; omega)) ?_
      simp only [Act.put, List.setIfInBounds_toArray, List.set_cons_zero, List.set_cons_succ]
      refine mix_val (.slice (some ⟨g, 0, none⟩) M.length capM) (by rfl) (fun _ _ => by first | rfl | (go_simp; done) | (go_simp; omega)) ?_
      simp only [Act.put, List.setIfInBounds_toArray, List.set_cons_zero, List.set_cons_succ]
      refine mix_val (.int .i64 (rb : Int)) (by rfl) (fun _ _ => by first | rfl | (go_simp; done) | (go_simp; omega)) ?_
      simp only [Act.put, List.setIfInBounds_toArray, List.set_cons_zero, List.set_cons_succ]
      refine mix_val (.slice (some ⟨g, 0, none⟩) M.length capM) (by rfl) (fun _ _ => by first | rfl | (go_simp; done) | (go_simp; omega)) ?_
      simp only [Act.put, List.setIfInBounds_toArray, List.set_cons_zero, List.set_cons_succ]
      refine mix_val (.int .i64 (rb : Int)) (by rfl) (fun _ _ => by first | rfl | (go_simp; done) | (go_simp; omega)) ?_
      simp only [Act.put, List.setIfInBounds_toArray, List.set_cons_zero, List.set_cons_succ]
      refine mix_val (.pointer (some ⟨g, rb * 18, none⟩)) (by rfl) (fun _ _ => by first | rfl | (go_simp; done) | (go_simp; omega)) ?_
      simp only [Act.put, List.setIfInBounds_toArray, List.set_cons_zero, List.set_cons_succ]
      refine mix_val (.slice (some ⟨g, 0, none⟩) M.length capM) (by rfl) (fun _ _ => by first | rfl | (go_simp; done) | (go_simp; omega)) ?_
      simp only [Act.put, List.setIfInBounds_toArray, List.set_cons_zero, List.set_cons_succ]
      refine mix_val (.int .i64 (ra : Int)) (by rfl) (fun _ _ => by first | rfl | (go_simp; done) | (go_simp; omega)) ?_
      simp only [Act.put, List.setIfInBounds_toArray, List.set_cons_zero, List.set_cons_succ]
      refine mix_val (.pointer (some ⟨g, ra * 18, none⟩)) (by rfl) (fun _ _ => by first | rfl | (go_simp; done) | (go_simp; omega)) ?_
      simp only [Act.put, List.setIfInBounds_toArray, List.set_cons_zero, List.set_cons_succ]
      show wpAnyH _ _ _ _ _ 6 _ _ _
      refine any_of_two 7 11 (by kernel_rfl) (by rfl) (by rfl) (by rfl) (by rfl) ?_ ?_
      all_goals simp only [List.getElem_toArray, List.getElem_cons_succ, List.getElem_cons_zero]
      · refine wp_load_atK _ rfl g (rb * 18) rfl vb tb HBT ⟨trivial, ?_⟩
        simp only [Act.put, List.setIfInBounds_toArray, List.set_cons_zero, List.set_cons_succ]
        refine any_of_one' 11 (by kernel_rfl) (by rfl) (by rfl) ?_
        all_goals simp only [List.getElem_toArray, List.getElem_cons_succ, List.getElem_cons_zero]
        refine wp_load_atK _ rfl g (ra * 18) rfl va ta HAT ⟨trivial, ?_⟩
        simp only [Act.put, List.setIfInBounds_toArray, List.set_cons_zero, List.set_cons_succ]
        refine any_of_rest (fun l => l.drop 12) [true, false, true, false] [12, 13, 14, 15] (by kernel_rfl) (by kernel_rfl) (by kernel_rfl) (by kernel_rfl) (by kernel_rfl) trivial ?_
        simp only [List.drop_succ_cons, List.drop_zero]
        refine mix_val (.pointer (some ⟨g, ra * 18, none⟩)) (by rfl) (fun _ _ => by first | rfl | (go_simp; done) | (go_simp; omega)) ?_
        simp only [Act.put, List.setIfInBounds_toArray, List.set_cons_zero, List.set_cons_succ]
        refine mix_store_at 29 _ _ rfl ⟨g, ra * 18, none⟩ (factC vb tb) rfl rfl hs1 (by rfl) trivial ?_
        simp only [Act.put]
        refine mix_val (.pointer (some ⟨g, rb * 18, none⟩)) (by rfl) (fun _ _ => by first | rfl | (go_simp; done) | (go_simp; omega)) ?_
        simp only [Act.put, List.setIfInBounds_toArray, List.set_cons_zero, List.set_cons_succ]
        refine mix_store_at 29 _ _ rfl ⟨g, rb * 18, none⟩ (factC va ta) rfl rfl hs2 (by rfl) trivial ?_
        simp only [Act.put]
        refine mix_done (P := Try.prog) (ops := #[]) (C := fun _ => True) ?_
        clear HAT HBT hs1 hs2
        go_wp2_with fail
        refine (HP3.out w6).mono ?_
        rintro e W9' ⟨rfl, rfl⟩
        cases cc with
        | false =>
          go_wp2_with fail
          go_roundw
          case rel => exact ⟨i + 1, M2, by omega, by omega, by go_num, by omega, HM2, R6, B6⟩
          case measure => simp [intOf]; omega
        | true =>
          have c6 := HAT6.out
          have hb7 := build_fact v6 t6 w6
          have b7 : Below w6.heap.size w6 (w6.alloc (.cells (factC v6 t6) 29)) := (Below.refl _ w6).alloc (Nat.le_refl _) _
          have B7 := B6.out.trans (Below.mono b7 B6.out.size)
          obtain ⟨v7, w7, happ7, hrow7, hgr7⟩ := appendA W2.heap.size (w6.alloc (.cells (factC v6 t6) 29)) (R6.out.below b7) (v6, t6) w6.heap.size (heap_new w6 _) B7.size (by omega) 23
          have B8 := Lib.hid (B7.grown hgr7 B7.size (fun j e => RowA.lt R6.out j e))
          have R8 := Lib.hid hrow7
          clear b7 B7 hgr7 hrow7 R6 B6 c6
          go_wp2_with (first
            | (refine wpList_load_at rfl _ rfl _ _ rfl v6 t6 HAT6.out ?_)
            | (refine wpList_build1 rfl 23 (.tmp 74) rfl (.agg (factC v6 t6)) rfl hb7 ?_)
            | (at_builtin; refine wpList_append_run rfl _ _ _ rfl _ _ rfl rfl happ7 ?_))
          go_roundw
          case rel => exact ⟨i + 1, _, by omega, by omega, by go_num, by rw [List.length_append]; simp; omega, HM3, R8, B8⟩
          case measure => simp [intOf]; omega
      · refine wp_load_atK _ rfl g (ra * 18) rfl va ta HAT ⟨trivial, ?_⟩
        simp only [Act.put, List.setIfInBounds_toArray, List.set_cons_zero, List.set_cons_succ]
        refine any_of_one' 7 (by kernel_rfl) (by rfl) (by rfl) ?_
        all_goals simp only [List.getElem_toArray, List.getElem_cons_succ, List.getElem_cons_zero]
        refine wp_load_atK _ rfl g (rb * 18) rfl vb tb HBT ⟨trivial, ?_⟩
        simp only [Act.put, List.setIfInBounds_toArray, List.set_cons_zero, List.set_cons_succ]
        refine any_of_rest (fun l => l.drop 12) [true, false, true, false] [12, 13, 14, 15] (by kernel_rfl) (by kernel_rfl) (by kernel_rfl) (by kernel_rfl) (by kernel_rfl) trivial ?_
        simp only [List.drop_succ_cons, List.drop_zero]
        refine mix_val (.pointer (some ⟨g, ra * 18, none⟩)) (by rfl) (fun _ _ => by first | rfl | (go_simp; done) | (go_simp; omega)) ?_
        simp only [Act.put, List.setIfInBounds_toArray, List.set_cons_zero, List.set_cons_succ]
        refine mix_store_at 29 _ _ rfl ⟨g, ra * 18, none⟩ (factC vb tb) rfl rfl hs1 (by rfl) trivial ?_
        simp only [Act.put]
        refine mix_val (.pointer (some ⟨g, rb * 18, none⟩)) (by rfl) (fun _ _ => by first | rfl | (go_simp; done) | (go_simp; omega)) ?_
        simp only [Act.put, List.setIfInBounds_toArray, List.set_cons_zero, List.set_cons_succ]
        refine mix_store_at 29 _ _ rfl ⟨g, rb * 18, none⟩ (factC va ta) rfl rfl hs2 (by rfl) trivial ?_
        simp only [Act.put]
        refine mix_done (P := Try.prog) (ops := #[]) (C := fun _ => True) ?_
        clear HAT HBT hs1 hs2
        go_wp2_with fail
        refine (HP3.out w6).mono ?_
        rintro e W9' ⟨rfl, rfl⟩
        cases cc with
        | false =>
          go_wp2_with fail
          go_roundw
          case rel => exact ⟨i + 1, M2, by omega, by omega, by go_num, by omega, HM2, R6, B6⟩
          case measure => simp [intOf]; omega
        | true =>
          have c6 := HAT6.out
          have hb7 := build_fact v6 t6 w6
          have b7 : Below w6.heap.size w6 (w6.alloc (.cells (factC v6 t6) 29)) := (Below.refl _ w6).alloc (Nat.le_refl _) _
          have B7 := B6.out.trans (Below.mono b7 B6.out.size)
          obtain ⟨v7, w7, happ7, hrow7, hgr7⟩ := appendA W2.heap.size (w6.alloc (.cells (factC v6 t6) 29)) (R6.out.below b7) (v6, t6) w6.heap.size (heap_new w6 _) B7.size (by omega) 23
          have B8 := Lib.hid (B7.grown hgr7 B7.size (fun j e => RowA.lt R6.out j e))
          have R8 := Lib.hid hrow7
          clear b7 B7 hgr7 hrow7 R6 B6 c6
          go_wp2_with (first
            | (refine wpList_load_at rfl _ rfl _ _ rfl v6 t6 HAT6.out ?_)
            | (refine wpList_build1 rfl 23 (.tmp 74) rfl (.agg (factC v6 t6)) rfl hb7 ?_)
            | (at_builtin; refine wpList_append_run rfl _ _ _ rfl _ _ rfl rfl happ7 ?_))
          go_roundw
          case rel => exact ⟨i + 1, _, by omega, by omega, by go_num, by rw [List.length_append]; simp; omega, HM3, R8, B8⟩
          case measure => simp [intOf]; omega
end Go.Proofs.Ytngkfopdlkddnaa
