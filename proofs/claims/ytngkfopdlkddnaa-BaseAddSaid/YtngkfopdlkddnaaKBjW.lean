/- The walk of BaseJoin. -/
import Derived.Test.YtngkfopdlkddnaaKBfs
namespace Go.Proofs.Ytngkfopdlkddnaa
open Go Go.RowKit Go.Maps
theorem ms_len {w : World} {base n : Nat} {vs : Nat → Value} {Ms : Nat → List Fx} (h : ∀ k, k < 10 → RowA w base (vs k) ((Ms k).map faX) ∧ (Ms k).length ≤ n) (hn : n ≤ 10000) : ∀ k, k < 10 → ((Ms k).map faX).length ≤ 10000 := fun k hk => by
  have := (h k hk).2
  rw [List.length_map]; omega
theorem facts10_small {l : List Fa} {Ms : Nat → List Fx} (h : ∀ k, k < 10 → (Ms k).length ≤ l.length) (hl : l.length ≤ 1000) : (facts10 (fun k => (Ms k).map faX) 10).length ≤ 10000 := by
  have : ∀ n, n ≤ 10 → (facts10 (fun k => (Ms k).map faX) n).length ≤ n * 1000 := fun n => by
    induction n with
    | zero => intro _; simp [facts10]
    | succ n ih =>
      intro hn
      rw [facts10_succ, List.length_append, List.length_map]
      have := ih (by omega)
      have := h n (by omega)
      omega
  have := this 10 (by omega)
  omega
set_option maxRecDepth 100000 in
set_option maxHeartbeats 8000000 in
theorem join_walk (AX : Option Addr) (xs : List (Nat → Int)) (capX : Nat) (AY : Option Addr) (ys : List (Nat → Int)) (capY : Nat) (w : World)
    (hX : SixS w AX xs) (hx : ∀ x ∈ xs, In6 x) (hlx : xs.length ≤ 9223372036854775807) (hY : SixS w AY ys) (hy : ∀ x ∈ ys, In6 x) (hly : ys.length ≤ 9223372036854775807) :
    Calls Try.prog 4 #[.slice AX xs.length capX, .slice AY ys.length capY] w fun e W' => e = .returned (.bool true) ∧ Below w.heap.size w W' := by
  have HF1 := Lib.hid (fun W (h : Below w.heap.size w W) => (show Calls Try.prog 8 #[.slice AX xs.length capX, .slice none 0 0] W _ from facts_calls AX xs capX none [] 0 W (hX.keep h) hx hlx (.inl rfl) (by simp)))
  have HF2 := Lib.hid (fun W (h : Below w.heap.size w W) => (show Calls Try.prog 8 #[.slice AY ys.length capY, .slice none 0 0] W _ from facts_calls AY ys capY none [] 0 W (hY.keep h) hy hly (.inl rfl) (by simp)))
  have hL := factsF_len xs []
  have hM := factsF_len ys []
  generalize factsF xs [] = L at *
  generalize factsF ys [] = M at *
  clear hX hx hlx hY hy hly
  go_enter Try.func4, Try.ntmps4
  go_wp2_with fail
  refine (sane_calls w).mono ?_
  rintro e W1 ⟨rfl, b1⟩
  have B1 := Lib.hid b1
  clear b1
  go_wp2_with fail
  refine (HF1.out W1 B1.out).mono ?_
  rintro e W2 ⟨v1, rfl, hr1, b2⟩
  obtain ⟨A1, cap1, rfl, hc1, hs1⟩ := RowA.slice hr1
  have R1 := Lib.hid hr1
  have S1 := Lib.hid hs1
  have B2 := Lib.hid (B1.out.trans (Below.mono b2 B1.out.size))
  clear hr1 hs1 b2 HF1 B1
  go_wp2_with fail
  refine (HF2.out W2 B2.out).mono ?_
  rintro e W3 ⟨v2, rfl, hr2, b3⟩
  obtain ⟨A2, cap2, rfl, hc2, hs2⟩ := RowA.slice hr2
  have R1 := Lib.hid (R1.out.below b3)
  have S1 := Lib.hid (S1.out.keep b3)
  have R2 := Lib.hid hr2
  have S2 := Lib.hid hs2
  have B3 := Lib.hid (B2.out.trans (Below.mono b3 B2.out.size))
  clear hr2 hs2 b3 HF2 B2
  go_wp2_with fail
  refine (Of_calls A1 L cap1 W3 S1.out (by omega)).mono ?_
  rintro e W4 ⟨vs, Ms, rfl, hP1, hrs, b4⟩
  have P1 := Lib.hid hP1
  have HL1 := Lib.hid (facts10_small (fun k hk => (hrs k hk).2) (by omega))
  have HFC := Lib.hid (Facts10_calls vs _ _ W4 (fun k hk => (hrs k hk).1) (ms_len hrs (by omega)))
  have C4 := Lib.hid b4
  have hz4 := b4.size
  clear hP1 hrs b4
  go_wp2_with fail
  refine HFC.out.mono ?_
  rintro e W5 ⟨v5, rfl, hr5, b5⟩
  have R5 := Lib.hid hr5
  have D5 := Lib.hid b5
  have C5 := Lib.hid (C4.out.trans (Below.mono b5 hz4))
  have hz5 := b5.size
  clear hr5 b5 HFC
  go_wp2_with fail
  refine (Of_calls A2 M cap2 W5 (S2.out.keep C5.out) (by omega)).mono ?_
  rintro e W6 ⟨us, Ns, rfl, hP2, hrs, b6⟩
  have P2 := Lib.hid hP2
  have HL2 := Lib.hid (facts10_small (fun k hk => (hrs k hk).2) (by omega))
  have HFC := Lib.hid (Facts10_calls us _ _ W6 (fun k hk => (hrs k hk).1) (ms_len hrs (by omega)))
  have R6 := Lib.hid (R5.out.below b6)
  have D6 := Lib.hid (D5.out.trans (Below.mono b6 hz5))
  have hz6 := b6.size
  clear hP2 hrs b6 R5 D5 C5
  go_wp2_with fail
  refine HFC.out.mono ?_
  rintro e W7 ⟨v7, rfl, hr7, b7⟩
  have R6' := R6.out.below b7
  have D7 := D6.out.trans (Below.mono b7 (Nat.le_trans hz5 hz6))
  obtain ⟨v8, W8, happ, hrow8, hgr8⟩ := append_facts W4.heap.size W6.heap.size W7 R6' hr7 D7.size (by have := HL1.out; have := HL2.out; omega) 23
  have D8 := D7.grown hgr8 D7.size (fun j e => RowA.lt R6' j e)
  obtain ⟨A8, cap8, rfl, hc8, hs8⟩ := RowA.slice hrow8
  have S8 := Lib.hid hs8
  have C8 := Lib.hid (C4.out.trans (Below.mono D8 hz4))
  have HL8 := Lib.hid (show (facts10 (fun k => (Ms k).map faX) 10 ++ facts10 (fun k => (Ns k).map faX) 10).length ≤ 100000 by rw [List.length_append]; have := HL1.out; have := HL2.out; omega)
  obtain ⟨PP, hPP⟩ : ∃ PP, facts10 (fun k => (Ms k).map faX) 10 ++ facts10 (fun k => (Ns k).map faX) 10 = PP := ⟨_, rfl⟩
  rw [hPP] at S8 HL8 happ hc8
  have HPP := Lib.hid hPP
  clear hPP hrow8 hs8 hgr8 R6' D7 D8 hr7 b7 HFC D6 R6 C4 HL1 HL2
  -- the two lists together
  have b9 : Below W8.heap.size W8 (W8.alloc (.cells #[] 29)) := (Below.refl _ W8).alloc (Nat.le_refl _) _
  have hem := emptyA W8 W8.heap.size (Nat.le_refl _)
  obtain ⟨v10, W10, happ10, hrow10, hgr10⟩ := append_facts W8.heap.size _ (W8.alloc (.cells #[] 29)) hem ((R1.out.below C8.out).below b9) b9.size (by simp; omega) 23
  have E10 := b9.grown hgr10 b9.size (fun j e => RowA.lt hem j e)
  rw [List.nil_append] at hrow10
  obtain ⟨v11, W11, happ11, hrow11, hgr11⟩ := append_facts W8.heap.size _ W10 hrow10 ((R2.out.below C8.out).below E10) E10.size (by omega) 23
  have E11 := E10.grown hgr11 E10.size (fun j e => RowA.lt hrow10 j e)
  obtain ⟨A11, cap11, rfl, hc11, hs11⟩ := RowA.slice hrow11
  have S11 := Lib.hid hs11
  have S8' := Lib.hid (S8.out.keep E11)
  have B11 := Lib.hid (B3.out.trans (Below.mono (C8.out.trans (Below.mono E11 C8.out.size)) B3.out.size))
  have HL11 : (L ++ M).length ≤ 100000 := by rw [List.length_append]; omega
  obtain ⟨LM, hLM⟩ : ∃ LM, L ++ M = LM := ⟨_, rfl⟩
  rw [hLM] at HL11 S11 happ11 hc11
  have HLM := Lib.hid hLM
  clear hLM hem b9 hgr10 E10 hrow10 hgr11 E11 hrow11 hs11 S8 C8 R1 R2 S1 S2 B3 hz4 hz5 hz6
  go_upto_region 5 with (at_builtin; refine wpList_append_runG rfl (.tmp 16) (.tmp 19) _ rfl _ _ rfl rfl happ ?_)
  go_wp2_with (first
    | (at_builtin; refine wpList_append_runG rfl (.tmp 23) (.tmp 24) 23 rfl (.slice (some ⟨W8.heap.size, 0, none⟩) 0 0) (.slice A1 L.length cap1) rfl rfl happ10 ?_)
    | (at_builtin; refine wpList_append_runG rfl (.tmp 25) (.tmp 26) 23 rfl v10 (.slice A2 M.length cap2) rfl rfl happ11 ?_))
  refine (Of_calls A11 LM cap11 W11 S11.out HL11).mono ?_
  rintro e W12 ⟨ps, Ps, rfl, hP3, hrs3, b12⟩
  have P3 := Lib.hid hP3
  have SL3 := Lib.hid (slB_of hrs3 HL11)
  have B12 := Lib.hid (B11.out.trans (Below.mono b12 B11.out.size))
  have S12 := Lib.hid (S8'.out.keep b12)
  clear hP3 hrs3 b12 S11 S8' B11 happ happ10 happ11
  go_wp2_with fail
  refine (Of_calls A8 PP cap8 W12 S12.out HL8.out).mono ?_
  rintro e W13 ⟨qs, Qs, rfl, hP4, hrs4, b13⟩
  have HBS := Lib.hid (sameB_of (base_join P1.out P2.out HPP.out.symm (by rw [HLM.out]; exact P3.out) hP4))
  have HSB := Lib.hid (SameB_calls ps qs _ _ W13 (SL3.out.below b13) (slB_of hrs4 HL8.out))
  have B13 := Lib.hid (B12.out.trans (Below.mono b13 B12.out.size))
  rw [HBS.out] at HSB
  clear hP4 hrs4 b13 B12 S12 SL3 P3 P1 P2 HPP
  go_wp2_with fail
  refine HSB.out.mono ?_
  rintro e W14 ⟨rfl, b14⟩
  go_wp2_with fail
  go_ret
  exact ⟨rfl, B13.out.trans (Below.mono b14 B13.out.size)⟩
end Go.Proofs.Ytngkfopdlkddnaa
