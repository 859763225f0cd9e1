/- The walk of FactsetFull. -/
import Derived.Test.YtmhphmolbjjopaaDoorSne
import Derived.Test.YtmhphmolbjjopaaDoorFup
namespace Go.Proofs.YtmhphmolbjjopaaDoor
open Go.RowKit Go.Maps
theorem pickF_rng (c n : Int) (h : 1 ≤ n) : 0 ≤ pickF c n ∧ pickF c n < n := by
  unfold pickF
  split
  · exact ⟨Int.emod_nonneg _ (by omega), Int.emod_lt_of_pos _ (by omega)⟩
  · exact ⟨Int.emod_nonneg _ (by omega), Int.emod_lt_of_pos _ (by omega)⟩
set_option maxRecDepth 100000 in
set_option maxHeartbeats 4000000 in
theorem full_walk (less more : Int) (w : World) (hK : Konst w) (hl0 : -9223372036854775808 ≤ less) (hl1 : less ≤ 9223372036854775807) (hm0 : -9223372036854775808 ≤ more) (hm1 : more ≤ 9223372036854775807) :
    Calls Tryd.prog 8 #[.int .i64 less, .int .i64 more] w fun e W' => e = .returned (.bool true) ∧ Below w.heap.size w W' := by
  have HK := Lib.hid hK
  have HSA := Lib.hid (sane_calls w hK)
  have HPL := Lib.hid (fun W => pick_calls less 4 W hl0 hl1 (by omega) (by omega))
  have HPM := Lib.hid (fun W => pick_calls more 7 W hm0 hm1 (by omega) (by omega))
  obtain ⟨q0, q1⟩ := pickF_rng less 4 (by omega)
  obtain ⟨m0, m1⟩ := pickF_rng more 7 (by omega)
  clear hK hl0 hl1 hm0 hm1
  generalize pickF less 4 = q at *
  generalize pickF more 7 = mi at *
  obtain ⟨N, hN⟩ : ∃ N : Nat, q = 4000 - (N : Int) := ⟨(4000 - q).toNat, by omega⟩
  obtain ⟨m, rfl⟩ : ∃ m : Nat, mi = (m : Int) := ⟨mi.toNat, by omega⟩
  have n0 : 3997 ≤ N := by omega
  have n1 : N ≤ 4000 := by omega
  have m1' : m < 7 := by omega
  have HPlay := Lib.hid (fun (j : Nat) (hj : j < 4006) W => play_calls (j : Int) W (by omega) (by omega))
  go_enter Tryd.func8, Tryd.ntmps8
  go_wp2_with fail
  refine HSA.out.mono ?_
  rintro e W1 ⟨rfl, b1⟩
  have B := Lib.hid b1
  clear b1 HSA
  go_wp2_with fail
  refine (HPL.out W1).mono ?_
  rintro e W9' ⟨rfl, rfl⟩
  clear HPL
  go_upto_region 3 with (fail)
  simp only [show (4000 : Int) - (4000 - (N : Int)) = (N : Int) by omega]
  clear hN q0 q1
  go_wp2_with fail
  refine (HPM.out W1).mono ?_
  rintro e W9' ⟨rfl, rfl⟩
  clear HPM m0 m1
  go_wp2_with fail
  refine (New_calls W1).mono ?_
  rintro e W2 ⟨s, b, rfl, hS, hs, hb, b2⟩
  have S := Lib.hid hS
  have hbl := hS.ltb
  have hpl := hS.ltp
  have z1 := B.out.size
  have z2 := b2.size
  replace B := Lib.hid (B.out.trans (b2.mono B.out.size))
  clear hS b2
  go_wp2_with fail
  refine (New_calls W2).mono ?_
  rintro e W3 ⟨t, d, rfl, hT, ht, hd, b2⟩
  have T := Lib.hid hT
  have z3 := B.out.size
  replace S := Lib.hid (S.out.below b2)
  replace B := Lib.hid (B.out.trans (b2.mono B.out.size))
  have hbd : b ≠ d := by omega
  have hbr : b ≠ t := by omega
  have hdb : d ≠ b := by omega
  have hds : d ≠ s := by omega
  have hwb : w.heap.size ≤ b := by omega
  have hwd : w.heap.size ≤ d := by omega
  clear hT b2 z1 z2 z3 hbl hpl hs hb ht hd
  go_upto_region 7 with (fail)
  go_loopw [9] (fun iv wr => ∃ (k : Nat) (es : List Ent), k ≤ N ∧ iv = .int .i64 k ∧ PlayS es 0 k ∧ Hid (SetAt wr s b es) ∧ Hid (SetAt wr t d []) ∧ Hid (Below w.heap.size w wr)) (fun iv _ => N - (intOf iv).toNat)
  case atStart => exact ⟨0, [], by omega, rfl, playS_nil 0, S, T, B⟩
  case round =>
    clear S T B
    obtain ⟨k, es, hk, rfl, hP, S, T, B⟩ := hrel
    have k0 : 0 ≤ (k : Int) := by omega
    by_cases hlt : k < N
    · have k1 : (k : Int) < (N : Int) := by omega
      obtain ⟨pb, pn, pe⟩ := playS_new hP (by omega) (by omega)
      rw [Nat.zero_add] at pb pn pe
      have HAD := Lib.hid (fun W (hk : Konst W) hs => Add_calls s b es (playA (k : Int)) W hk hs hP.1)
      rw [pb, pn] at HAD
      have HPk := Lib.hid (HPlay.out k (by omega))
      clear pb pn
      generalize plusE es (playA (k : Int)) = es2 at *
      have hcells : factC (playA (k : Int)).1 (playA (k : Int)).2 = factC (playV k) ⟨#[]⟩ := rfl
      rw [hcells] at HAD
      clear hcells
      generalize factC (playV (k : Int)) ⟨#[]⟩ = cs at *
      go_wp2_with fail
      refine (HPk.out _).mono ?_
      rintro e W4 ⟨rfl, b3⟩
      replace S := Lib.hid (S.out.below b3)
      replace T := Lib.hid (T.out.below b3)
      replace B := Lib.hid (B.out.trans (b3.mono B.out.size))
      clear b3
      go_wp2_with fail
      refine (HAD.out _ (HK.out.keep B.out) S.out).mono ?_
      rintro e W5 ⟨rfl, hS3, hg3⟩
      replace T := Lib.hid (T.out.keep hg3 (fun e => hbr (Option.some.inj e)) (fun e => hbd (Option.some.inj e)))
      replace S := Lib.hid hS3
      replace B := Lib.hid (B.out.grown hg3 B.out.size (fun j e => by cases e; exact hwb))
      clear hS3 hg3 HAD HPk
      go_wp2_with fail
      go_roundw
      case rel => exact ⟨k + 1, es2, by omega, by go_num, pe, S, T, B⟩
      case measure => simp [intOf]; omega
    · obtain rfl : k = N := by omega
      have k1 : (k : Int) ≤ (k : Int) := by omega
      clear hlt hk
      go_upto_region 13 with (fail)
      go_loopw [12] (fun iv wr => ∃ (i : Nat) (et : List Ent), i ≤ m ∧ iv = .int .i64 i ∧ PlayS et k i ∧ Hid (SetAt wr s b es) ∧ Hid (SetAt wr t d et) ∧ Hid (Below w.heap.size w wr)) (fun iv _ => m - (intOf iv).toNat)
      case atStart => exact ⟨0, [], by omega, rfl, playS_nil k, S, T, B⟩
      case round =>
        clear S T B
        obtain ⟨i, et, hi, rfl, hQ, S, T, B⟩ := hrel
        have i0 : 0 ≤ (i : Int) := by omega
        by_cases hlt : i < m
        · have i1 : (i : Int) < (m : Int) := by omega
          obtain ⟨-, -, pe⟩ := playS_new hQ (by omega) (by omega)
          have HAD := Lib.hid (fun W (hk : Konst W) hs => Add_calls t d et (playA ((k + i : Nat) : Int)) W hk hs hQ.1)
          have HPk := Lib.hid (HPlay.out (k + i) (by omega))
          generalize plusE et (playA ((k + i : Nat) : Int)) = et2 at *
          generalize plusB et (playA ((k + i : Nat) : Int)) = u1 at *
          generalize plusN et (playA ((k + i : Nat) : Int)) = u2 at *
          have hcells : factC (playA ((k + i : Nat) : Int)).1 (playA ((k + i : Nat) : Int)).2 = factC (playV ((k + i : Nat) : Int)) ⟨#[]⟩ := rfl
          rw [hcells] at HAD
          clear hcells
          generalize factC (playV ((k + i : Nat) : Int)) ⟨#[]⟩ = cs at *
          rw [Int.natCast_add] at HPk
          go_wp2_with fail
          refine (HPk.out _).mono ?_
          rintro e W4 ⟨rfl, b3⟩
          replace S := Lib.hid (S.out.below b3)
          replace T := Lib.hid (T.out.below b3)
          replace B := Lib.hid (B.out.trans (b3.mono B.out.size))
          clear b3
          go_wp2_with fail
          refine (HAD.out _ (HK.out.keep B.out) T.out).mono ?_
          rintro e W5 ⟨rfl, hS3, hg3⟩
          replace S := Lib.hid (S.out.keep hg3 (fun e => hds (Option.some.inj e)) (fun e => hdb (Option.some.inj e)))
          replace T := Lib.hid hS3
          replace B := Lib.hid (B.out.grown hg3 B.out.size (fun j e => by cases e; exact hwd))
          clear hS3 hg3 HAD HPk
          go_wp2_with fail
          go_roundw
          case rel => exact ⟨i + 1, et2, by omega, by go_num, pe, S, T, B⟩
          case measure => simp [intOf]; omega
        · obtain rfl : i = m := by omega
          have i1 : (i : Int) ≤ (i : Int) := by omega
          clear hlt hi
          obtain ⟨he, hU, hsame⟩ := uniS_play hP hQ (by omega)
          have HU := Lib.hid (fun W hs ht => Union_calls s b t d es et W hs ht hP.1 hQ.1 hbd hbr)
          rw [he] at HU
          have HR := Lib.hid (fun W (hk : Konst W) hs => RootSet s b es W hk hs hP.1)
          generalize (⟨(rootF shaF (idsE es)).toArray⟩ : ByteArray) = R at *
          have hLe := hP.2.1
          go_wp2_with fail
          refine (HR.out _ (HK.out.keep B.out) S.out).mono ?_
          rintro e W4 ⟨rfl, b3⟩
          replace S := Lib.hid (S.out.below b3)
          replace T := Lib.hid (T.out.below b3)
          replace B := Lib.hid (B.out.trans (b3.mono B.out.size))
          clear b3
          go_wp2_with fail
          refine (HU.out _ S.out T.out).mono ?_
          rintro e W5 ⟨rfl, hS3, hg3⟩
          replace B := Lib.hid (B.out.grown hg3 B.out.size (fun j e => by cases e; exact hwb))
          replace S := Lib.hid hS3
          clear hS3 hg3 T HU hQ hdb hds
          by_cases hfit : k + i ≤ 4000
          · simp only [if_pos hfit] at hU ⊢
            have hf2 : (k : Int) + (i : Int) ≤ 4000 := by omega
            generalize uniS es et = eu at *
            go_wp2_with fail
            clear HR
            go_loopw [15] (fun iv wr => ∃ (j : Nat) (ew : List Ent), j ≤ i ∧ iv = .int .i64 j ∧ PlayS ew 0 (k + i) ∧ Hid (SetAt wr s b ew) ∧ Hid (Below w.heap.size w wr)) (fun iv _ => i - (intOf iv).toNat)
            case atStart => exact ⟨0, eu, by omega, rfl, by first | exact hU | simpa [Nat.min_eq_left n1] using hU, S, B⟩
            case round =>
              clear S B
              obtain ⟨j, ew, hj, rfl, hE, S, B⟩ := hrel
              have j0 : 0 ≤ (j : Int) := by omega
              by_cases hlt : j < i
              · have j1 : (j : Int) < (i : Int) := by omega
                have f1 : (k : Int) + (j : Int) < 4000 := by omega
                obtain ⟨pb, pn, pe⟩ := playS_old hE (k + j) (by omega) (by omega) (by omega)
                have HAD := Lib.hid (fun W (hk : Konst W) hs => Add_calls s b ew (playA ((k + j : Nat) : Int)) W hk hs hE.1)
                rw [pb, pn] at HAD
                have HPk := Lib.hid (HPlay.out (k + j) (by omega))
                rw [pe] at HAD
                clear pb pn pe
                have hcells : factC (playA ((k + j : Nat) : Int)).1 (playA ((k + j : Nat) : Int)).2 = factC (playV ((k + j : Nat) : Int)) ⟨#[]⟩ := rfl
                rw [hcells] at HAD
                clear hcells
                generalize factC (playV ((k + j : Nat) : Int)) ⟨#[]⟩ = cs at *
                rw [Int.natCast_add] at HPk
                go_wp2_with fail
                refine (HPk.out _).mono ?_
                rintro e W7 ⟨rfl, b3⟩
                replace S := Lib.hid (S.out.below b3)
                replace B := Lib.hid (B.out.trans (b3.mono B.out.size))
                clear b3
                go_wp2_with fail
                refine (HAD.out _ (HK.out.keep B.out) S.out).mono ?_
                rintro e W8 ⟨rfl, hS3, hg3⟩
                replace S := Lib.hid hS3
                replace B := Lib.hid (B.out.grown hg3 B.out.size (fun j e => by cases e; exact hwb))
                clear hS3 hg3 HAD HPk
                go_wp2_with fail
                go_roundw
                case rel => exact ⟨j + 1, ew, by omega, by go_num, hE, S, B⟩
                case measure => simp [intOf]; omega
              · obtain rfl : j = i := by omega
                have j1 : (j : Int) ≤ (j : Int) := by omega
                clear hlt hj
                obtain ⟨pb, pn, pe⟩ := playS_old hE 0 (by omega) (by omega) (by omega)
                have HAD := Lib.hid (fun W (hk : Konst W) hs => Add_calls s b ew (playA ((0 : Nat) : Int)) W hk hs hE.1)
                rw [pb, pn, pe] at HAD
                have HPk := Lib.hid (HPlay.out 0 (by omega))
                clear pb pn pe
                have hcells : factC (playA ((0 : Nat) : Int)).1 (playA ((0 : Nat) : Int)).2 = factC (playV ((0 : Nat) : Int)) ⟨#[]⟩ := rfl
                rw [hcells] at HAD
                clear hcells
                generalize factC (playV ((0 : Nat) : Int)) ⟨#[]⟩ = cs at *
                have hLn2 := fun W hs => Len_calls s b ew W hs
                rw [hE.2.1] at hLn2
                go_wp2_with fail
                refine (HPk.out _).mono ?_
                rintro e W7 ⟨rfl, b3⟩
                replace S := Lib.hid (S.out.below b3)
                replace B := Lib.hid (B.out.trans (b3.mono B.out.size))
                clear b3
                go_wp2_with fail
                refine (HAD.out _ (HK.out.keep B.out) S.out).mono ?_
                rintro e W8 ⟨rfl, hS3, hg3⟩
                replace S := Lib.hid hS3
                replace B := Lib.hid (B.out.grown hg3 B.out.size (fun j e => by cases e; exact hwb))
                clear hS3 hg3 HAD HPk
                go_wp2_with fail
                refine (hLn2 _ S.out).mono ?_
                rintro e W9' ⟨rfl, rfl⟩
                go_wp2_with fail
                have hmn : (((k : Int) + (j : Int)) == min ((k : Int) + (j : Int)) 4000) = true := by rw [beq_iff_eq]; omega
                rw [hmn]
                go_ret
                exact ⟨rfl, B.out⟩
          · simp only [if_neg hfit] at hU ⊢
            have hf2 : ¬ (k : Int) + (i : Int) ≤ 4000 := by omega
            rw [hsame hfit] at S hU
            have hLn := fun W hs => Len_calls s b es W hs
            rw [hLe] at hLn
            go_wp2_with fail
            refine (HR.out _ (HK.out.keep B.out) S.out).mono ?_
            rintro e W6 ⟨rfl, b3⟩
            replace S := Lib.hid (S.out.below b3)
            replace B := Lib.hid (B.out.trans (b3.mono B.out.size))
            clear b3
            go_wp2_with fail
            refine (hLn _ S.out).mono ?_
            rintro e W9' ⟨rfl, rfl⟩
            go_wp2_with fail
            clear HR
            go_loopw [15] (fun iv wr => ∃ (j : Nat) (ew : List Ent), j ≤ i ∧ iv = .int .i64 j ∧ PlayS ew 0 (min (k + j) 4000) ∧ Hid (SetAt wr s b ew) ∧ Hid (Below w.heap.size w wr)) (fun iv _ => i - (intOf iv).toNat)
            case atStart => exact ⟨0, es, by omega, rfl, by first | exact hU | simpa [Nat.min_eq_left n1] using hU, S, B⟩
            case round =>
              clear S B
              obtain ⟨j, ew, hj, rfl, hE, S, B⟩ := hrel
              have j0 : 0 ≤ (j : Int) := by omega
              by_cases hlt : j < i
              · have j1 : (j : Int) < (i : Int) := by omega
                by_cases hf : k + j < 4000
                · have f1 : (k : Int) + (j : Int) < 4000 := by omega
                  rw [Nat.min_eq_left (by omega)] at hE
                  obtain ⟨pb, pn, pe⟩ := playS_new hE (by omega) (by omega)
                  rw [Nat.zero_add] at pb pn pe
                  have HAD := Lib.hid (fun W (hk : Konst W) hs => Add_calls s b ew (playA ((k + j : Nat) : Int)) W hk hs hE.1)
                  rw [pb, pn] at HAD
                  have HPk := Lib.hid (HPlay.out (k + j) (by omega))
                  clear pb pn
                  generalize plusE ew (playA ((k + j : Nat) : Int)) = ew2 at *
                  have hcells : factC (playA ((k + j : Nat) : Int)).1 (playA ((k + j : Nat) : Int)).2 = factC (playV ((k + j : Nat) : Int)) ⟨#[]⟩ := rfl
                  rw [hcells] at HAD
                  clear hcells
                  generalize factC (playV ((k + j : Nat) : Int)) ⟨#[]⟩ = cs at *
                  rw [Int.natCast_add] at HPk
                  go_wp2_with fail
                  refine (HPk.out _).mono ?_
                  rintro e W7 ⟨rfl, b3⟩
                  replace S := Lib.hid (S.out.below b3)
                  replace B := Lib.hid (B.out.trans (b3.mono B.out.size))
                  clear b3
                  go_wp2_with fail
                  refine (HAD.out _ (HK.out.keep B.out) S.out).mono ?_
                  rintro e W8 ⟨rfl, hS3, hg3⟩
                  replace S := Lib.hid hS3
                  replace B := Lib.hid (B.out.grown hg3 B.out.size (fun j e => by cases e; exact hwb))
                  clear hS3 hg3 HAD HPk
                  go_wp2_with fail
                  go_roundw
                  case rel => exact ⟨j + 1, ew2, by omega, by go_num, by rw [Nat.min_eq_left (by omega)]; exact pe, S, B⟩
                  case measure => simp [intOf]; omega
                · have f1 : ¬ (k : Int) + (j : Int) < 4000 := by omega
                  rw [Nat.min_eq_right (by omega)] at hE
                  obtain ⟨pb, pn, pe⟩ := playS_full hE (k + j) (by omega) (by omega)
                  have HAD := Lib.hid (fun W (hk : Konst W) hs => Add_calls s b ew (playA ((k + j : Nat) : Int)) W hk hs hE.1)
                  rw [pb, pn] at HAD
                  have HPk := Lib.hid (HPlay.out (k + j) (by omega))
                  rw [pe] at HAD
                  clear pb pn pe
                  have hcells : factC (playA ((k + j : Nat) : Int)).1 (playA ((k + j : Nat) : Int)).2 = factC (playV ((k + j : Nat) : Int)) ⟨#[]⟩ := rfl
                  rw [hcells] at HAD
                  clear hcells
                  generalize factC (playV ((k + j : Nat) : Int)) ⟨#[]⟩ = cs at *
                  rw [Int.natCast_add] at HPk
                  go_wp2_with fail
                  refine (HPk.out _).mono ?_
                  rintro e W7 ⟨rfl, b3⟩
                  replace S := Lib.hid (S.out.below b3)
                  replace B := Lib.hid (B.out.trans (b3.mono B.out.size))
                  clear b3
                  go_wp2_with fail
                  refine (HAD.out _ (HK.out.keep B.out) S.out).mono ?_
                  rintro e W8 ⟨rfl, hS3, hg3⟩
                  replace S := Lib.hid hS3
                  replace B := Lib.hid (B.out.grown hg3 B.out.size (fun j e => by cases e; exact hwb))
                  clear hS3 hg3 HAD HPk
                  go_wp2_with fail
                  go_roundw
                  case rel => exact ⟨j + 1, ew, by omega, by go_num, by rw [Nat.min_eq_right (by omega)]; exact hE, S, B⟩
                  case measure => simp [intOf]; omega
              · obtain rfl : j = i := by omega
                have j1 : (j : Int) ≤ (j : Int) := by omega
                clear hlt hj
                rw [Nat.min_eq_right (by omega)] at hE
                obtain ⟨pb, pn, pe⟩ := playS_old hE 0 (by omega) (by omega) (by omega)
                have HAD := Lib.hid (fun W (hk : Konst W) hs => Add_calls s b ew (playA ((0 : Nat) : Int)) W hk hs hE.1)
                rw [pb, pn, pe] at HAD
                have HPk := Lib.hid (HPlay.out 0 (by omega))
                clear pb pn pe
                have hcells : factC (playA ((0 : Nat) : Int)).1 (playA ((0 : Nat) : Int)).2 = factC (playV ((0 : Nat) : Int)) ⟨#[]⟩ := rfl
                rw [hcells] at HAD
                clear hcells
                generalize factC (playV ((0 : Nat) : Int)) ⟨#[]⟩ = cs at *
                have hLn2 := fun W hs => Len_calls s b ew W hs
                rw [hE.2.1] at hLn2
                go_wp2_with fail
                refine (HPk.out _).mono ?_
                rintro e W7 ⟨rfl, b3⟩
                replace S := Lib.hid (S.out.below b3)
                replace B := Lib.hid (B.out.trans (b3.mono B.out.size))
                clear b3
                go_wp2_with fail
                refine (HAD.out _ (HK.out.keep B.out) S.out).mono ?_
                rintro e W8 ⟨rfl, hS3, hg3⟩
                replace S := Lib.hid hS3
                replace B := Lib.hid (B.out.grown hg3 B.out.size (fun j e => by cases e; exact hwb))
                clear hS3 hg3 HAD HPk
                go_wp2_with fail
                refine (hLn2 _ S.out).mono ?_
                rintro e W9' ⟨rfl, rfl⟩
                go_wp2_with fail
                have hmn : ((4000 : Int) == min ((k : Int) + (j : Int)) 4000) = true := by rw [beq_iff_eq]; omega
                rw [hmn]
                go_ret
                exact ⟨rfl, B.out⟩
end Go.Proofs.YtmhphmolbjjopaaDoor
