/- The walk of FactsetOrder. -/
import Derived.Test.YtmhphmolbjjopaaDoorSne
import Derived.Test.YtmhphmolbjjopaaDoorSme
import Derived.Test.YtmhphmolbjjopaaDoorTwn
import Derived.Test.YtmhphmolbjjopaaDoorOrp
import Derived.Test.YtmhphmolbjjopaaDoorLaidi
namespace Go.Proofs.YtmhphmolbjjopaaDoor
open Go.RowKit Go.Maps
theorem pickF_rng (c n : Int) (h : 1 ≤ n) : 0 ≤ pickF c n ∧ pickF c n < n := by
  unfold pickF
  split
  · exact ⟨Int.emod_nonneg _ (by omega), Int.emod_lt_of_pos _ (by omega)⟩
  · exact ⟨Int.emod_nonneg _ (by omega), Int.emod_lt_of_pos _ (by omega)⟩
set_option maxRecDepth 100000 in
set_option maxHeartbeats 8000000 in
theorem order_walk (A : Option Addr) (l : List Fa) (cap : Nat) (AO : Option Addr) (os : List Int) (capO : Nat) (w : World) (hK : Konst w) (_hc : l.length ≤ cap) (hl : l.length ≤ 9223372036854775807) (hA : FactsS w A l) (hx : ∀ f ∈ l, FaR f)
    (_hcO : os.length ≤ capO) (hlO : os.length ≤ 9223372036854775807) (hO : IntsS w AO os) (hxO : ∀ x ∈ os, -9223372036854775808 ≤ x ∧ x ≤ 9223372036854775807) :
    Calls Tryd.prog 3 #[.slice A l.length cap, .slice AO os.length capO] w fun e W' => e = .returned (.bool true) ∧ Below w.heap.size w W' := by
  have HSA := Lib.hid (sane_calls w hK)
  have HCUT := Lib.hid (fun W (hs : FactsS W A l) => cut_calls l A cap W hs hl (fun f hf => (hx f hf).2))
  have HA := Lib.hid hA
  have HO := Lib.hid hO
  have HXO := Lib.hid hxO
  have HK := Lib.hid hK
  clear hK hA hO hxO hl hx _hc _hcO
  have hCL := cutL_length l
  generalize cutL l = L at *
  go_enter Tryd.func3, Tryd.ntmps3
  go_wp2_with fail
  refine HSA.out.mono ?_
  rintro e W1 ⟨rfl, b1⟩
  have B := Lib.hid b1
  clear b1 HSA
  go_wp2_with fail
  refine (HCUT.out W1 (HA.out.keep B.out)).mono ?_
  rintro e W2 ⟨vc, rfl, hrow, b2⟩
  obtain ⟨A2, cap2, rfl, hc2, hst⟩ := RowA.slice hrow
  replace B := Lib.hid (B.out.trans (b2.mono B.out.size))
  clear b2 hrow HCUT HA
  have HL := Lib.hid hst
  clear hst
  replace HK := Lib.hid (HK.out.keep B.out)
  replace HO := Lib.hid (HO.out.keep B.out)
  go_wp2_with fail
  refine (of_calls L A2 cap2 W2 HK.out HL.out (by omega)).mono ?_
  rintro e W3 ⟨a, ab, rfl, hS, ha, hab, b2⟩
  have S := Lib.hid hS
  have hz := b2.size
  have hal := hS.ltp
  have habl := hS.ltb
  have C := Lib.hid b2
  clear hS b2
  go_wp2_with fail
  refine (New_calls W3).mono ?_
  rintro e W4 ⟨q, d, rfl, hT, hq, hd, b2⟩
  have T := Lib.hid hT
  replace S := Lib.hid (S.out.below b2)
  replace C := Lib.hid (C.out.trans (b2.mono C.out.size))
  have hda : d ≠ a := by omega
  have hdb : d ≠ ab := by omega
  have hwd : W2.heap.size ≤ d := by omega
  clear hT b2 hz hal habl ha hab hq hd
  go_upto_region 6 with (fail)
  go_loopw [8] (fun iv wr => ∃ (i : Nat) (M : List Fa), i ≤ os.length ∧ i ≤ 40 ∧ iv = .int .i64 i ∧ Hid (M.length = i ∧ ∀ f ∈ M, f ∈ L) ∧ Hid (SetAt wr a ab (ofL L)) ∧ Hid (SetAt wr q d (ofL M)) ∧ Hid (Below W2.heap.size W2 wr)) (fun iv _ => os.length - (intOf iv).toNat)
  case atStart => exact ⟨0, [], by omega, by omega, rfl, Lib.hid ⟨rfl, fun f hf => by cases hf⟩, S, T, C⟩
  case round =>
    clear S T C
    obtain ⟨i, M, hi, hi40, rfl, HM, S, T, C⟩ := hrel
    have i0 : 0 ≤ (i : Int) := by omega
    have hcond : (i < os.length ∧ i < 40 ∧ 0 < L.length) ∨ ¬ (i < os.length ∧ i < 40 ∧ 0 < L.length) := Decidable.em _
    rcases hcond with ⟨h1, h2, h3⟩ | hend
    · have i1 : (i : Int) < (os.length : Int) := by omega
      have i2 : (i : Int) < 40 := by omega
      have l1 : (0 : Int) < (L.length : Int) := by omega
      rcases HO.out with hz | ⟨bo, oo, rfl, hso⟩
      · rw [hz] at h1; exact absurd h1 (by simp)
      rcases HL.out with hz | ⟨gl, o, rfl, hst⟩
      · rw [hz] at h3; exact absurd h3 (by simp)
      have c1 : wr.cell? ⟨bo, oo + i, none⟩ = _ := (hso.keep C.out) i h1
      have hbx := HXO.out _ (show os.getD i 0 ∈ os by rw [List.getD_eq_getElem?_getD, List.getElem?_eq_getElem h1]; exact List.getElem_mem h1)
      obtain ⟨r0, r1⟩ := pickF_rng (os.getD i 0) (L.length : Int) (by omega)
      have HP := Lib.hid (fun W => pick_calls (os.getD i 0) (L.length : Int) W hbx.1 hbx.2 (by omega) (by omega))
      obtain ⟨r, hr⟩ : ∃ r : Nat, pickF (os.getD i 0) (L.length : Int) = (r : Int) := ⟨(pickF (os.getD i 0) (L.length : Int)).toNat, by omega⟩
      rw [hr] at HP r0 r1
      have hrl : r < L.length := by omega
      clear hr
      have Hat : Hid (∀ j x, (factC (L.getD r zeroA).1 (L.getD r zeroA).2)[j]? = some x → _) := Lib.hid ((hst.keep C.out) r hrl)
      have hadd := Add_calls q d _ (L.getD r zeroA) wr (HK.out.keep C.out) T.out (good_of _)
      rw [← ofL_snoc] at hadd
      have HM2 := Lib.hid (show (M ++ [L.getD r zeroA]).length = i + 1 ∧ ∀ f ∈ M ++ [L.getD r zeroA], f ∈ L from ⟨by rw [List.length_append, HM.out.1]; rfl, fun f hf => by
        rcases List.mem_append.1 hf with h | h
        · exact HM.out.2 f h
        · rw [List.mem_singleton.1 h]; exact getD_mem hrl⟩)
      have HD := Lib.hid hadd
      clear hadd hst hso hbx
      generalize plusB (ofL M) (L.getD r zeroA) = u1 at *
      generalize plusN (ofL M) (L.getD r zeroA) = u2 at *
      generalize M ++ [L.getD r zeroA] = M2 at *
      generalize L.getD r zeroA = f at *
      generalize os.getD i 0 = xo at *
      obtain ⟨u, t⟩ := f
      dsimp only at *
      go_wp2_with fail
      refine (HP.out _).mono ?_
      rintro e W9' ⟨rfl, rfl⟩
      go_wp2_with (refine wpList_load_at rfl _ rfl _ _ rfl _ _ Hat.out ?_)
      refine HD.out.mono ?_
      rintro e W5 ⟨rfl, hS3, hg3⟩
      replace S := Lib.hid (S.out.keep hg3 (fun e => hda (Option.some.inj e)) (fun e => hdb (Option.some.inj e)))
      replace T := Lib.hid hS3
      replace C := Lib.hid (C.out.grown hg3 C.out.size (fun j e => by cases e; exact hwd))
      clear hS3 hg3 HD HP Hat c1
      go_wp2_with fail
      go_roundw
      case rel => exact ⟨i + 1, M2, by omega, by omega, by go_num, HM2, S, T, C⟩
      case measure => simp [intOf]; omega
    · have HMl : M.length ≤ 1000 := by rw [HM.out.1]; omega
      have HMm := Lib.hid HM.out.2
      clear HM
      have hway : (¬ (i : Int) < (os.length : Int)) ∨ ((i : Int) < (os.length : Int) ∧ ¬ (i : Int) < 40) ∨ ((i : Int) < (os.length : Int) ∧ (i : Int) < 40 ∧ ¬ (0 : Int) < (L.length : Int)) := by omega
      clear hend
      rcases hway with i1 | ⟨i1, i2⟩ | ⟨i1, i2, i3⟩
      all_goals
        go_upto_region 10 with (fail)
        clear hi40 hi
        go_loopw [9] (fun iv wr => ∃ k : Nat, k ≤ L.length ∧ iv = .int .i64 ((k : Int) - 1) ∧ Hid (SetAt wr a ab (ofL L)) ∧ Hid (SetAt wr q d (ofL (M ++ (L.drop k).reverse))) ∧ Hid (Below W2.heap.size W2 wr)) (fun iv _ => (intOf iv + 1).toNat)
        case atStart => exact ⟨L.length, by omega, by go_num, S, by rw [List.drop_length, List.reverse_nil, List.append_nil]; exact T, C⟩
        case round =>
          clear S T C i1
          obtain ⟨k, hk, rfl, S, T, C⟩ := hrel
          rcases Nat.eq_zero_or_pos k with hk0 | hk0
          rotate_left
          · obtain ⟨k, rfl⟩ : ∃ n, k = n + 1 := ⟨k - 1, by omega⟩
            have k0 : (0 : Int) ≤ (k : Int) := by omega
            have hkl : k < L.length := by omega
            have k1 : (k : Int) < (L.length : Int) := by omega
            rw [show (((k + 1 : Nat) : Int) - 1) = (k : Int) by omega]
            rcases HL.out with hz | ⟨gl, o, rfl, hst⟩
            · rw [hz] at hkl; exact absurd hkl (by simp)
            have Hat : Hid (∀ j x, (factC (L.getD k zeroA).1 (L.getD k zeroA).2)[j]? = some x → _) := Lib.hid ((hst.keep C.out) k hkl)
            have hadd := Add_calls q d _ (L.getD k zeroA) wr (HK.out.keep C.out) T.out (good_of _)
            rw [← ofL_snoc, ← back_succ M L k hkl] at hadd
            have HD := Lib.hid hadd
            clear hadd hst
            generalize plusB (ofL (M ++ (L.drop (k + 1)).reverse)) (L.getD k zeroA) = u1 at *
            generalize plusN (ofL (M ++ (L.drop (k + 1)).reverse)) (L.getD k zeroA) = u2 at *
            generalize L.getD k zeroA = f at *
            obtain ⟨u, t⟩ := f
            dsimp only at *
            go_wp2_with (refine wpList_load_at rfl _ rfl _ _ rfl _ _ Hat.out ?_)
            refine HD.out.mono ?_
            rintro e W5 ⟨rfl, hS3, hg3⟩
            replace S := Lib.hid (S.out.keep hg3 (fun e => hda (Option.some.inj e)) (fun e => hdb (Option.some.inj e)))
            replace T := Lib.hid hS3
            replace C := Lib.hid (C.out.grown hg3 C.out.size (fun j e => by cases e; exact hwd))
            clear hS3 hg3 HD Hat
            go_wp2_with fail
            go_roundw
            case rel => exact ⟨k, by omega, by go_num, S, T, C⟩
            case measure => simp [intOf]
          · subst hk0
            rw [List.drop_zero] at T
            have TT := Lib.hid (fun hT : ¬ TwinsP L => ofL_any hT HMm.out (by omega) HMl)
            generalize hB : ofL (M ++ L.reverse) = EB at T TT
            have HG := Lib.hid (show Good EB by rw [← hB]; exact good_of _)
            clear hB HMl HMm
            have hneg : ((0 : Nat) : Int) - 1 = -1 := rfl
            rw [hneg]
            clear hneg
            go_upto_region 15 with (fail)
            go_loopw [10, 11] (fun vv iv wr => ∃ k : Nat, k ≤ L.length ∧ iv = .int .i64 k ∧ vv = .int .i64 (cntF L k) ∧ Hid (SetAt wr a ab (ofL L)) ∧ Hid (SetAt wr q d EB) ∧ Hid (Below W2.heap.size W2 wr)) (fun _ iv _ => L.length - (intOf iv).toNat)
            case atStart => exact ⟨0, by omega, rfl, rfl, S, T, C⟩
            case round =>
              clear S T C
              obtain ⟨k, hk, rfl, rfl, S, T, C⟩ := hrel
              have k0 : 0 ≤ (k : Int) := by omega
              by_cases hlt : k < L.length
              · have k1 : (k : Int) < (L.length : Int) := by omega
                have hcs := cntF_succ hlt
                have hcl := cntF_le L k
                rcases HL.out with hz | ⟨gl, o, rfl, hst⟩
                · rw [hz] at hlt; exact absurd hlt (by simp)
                have Hat : Hid (∀ j x, (factC (L.getD k zeroA).1 (L.getD k zeroA).2)[j]? = some x → _) := Lib.hid ((hst.keep C.out) k hlt)
                have HI := Lib.hid (ID_calls (L.getD k zeroA).1 (L.getD k zeroA).2 wr (HK.out.keep C.out))
                have HH := Lib.hid (fun (key : ByteArray) W hS (hk : key.size ≤ maxLen) => Has_calls a ab (ofL L) key W hS (good_of L).2.1 hk)
                cases hok : okT (L.getD k zeroA).1 (L.getD k zeroA).2 with
                | false =>
                  have e1 : idF (L.getD k zeroA).1 (L.getD k zeroA).2 = [] := by unfold idF; rw [hok]; rfl
                  have e2 : errF (L.getD k zeroA).1 (L.getD k zeroA).2 = 50 := by unfold errF; rw [hok]; rfl
                  rw [if_neg (by show ¬ okT (L.getD k zeroA).1 (L.getD k zeroA).2 = true; rw [hok]; decide)] at hcs
                  rw [e1, e2] at HI
                  clear e1 e2 hok
                  have HHk := Lib.hid (fun W hS => HH.out (⟨([] : List UInt8).toArray⟩ : ByteArray) W hS (by decide))
                  have hhas : hasE (ofL L) (⟨([] : List UInt8).toArray⟩ : ByteArray).data.toList = false := has_empty (good_of L)
                  rw [hhas] at HHk
                  clear hhas HH
                  generalize L.getD k zeroA = f at *
                  obtain ⟨u, t⟩ := f
                  dsimp only at *
                  generalize hcc : cntF L k = cc at *
                  clear hcc
                  have HCS := Lib.hid hcs
                  clear hcs
                  go_wp2_with (refine wpList_load_at rfl _ rfl _ _ rfl _ _ Hat.out ?_)
                  refine HI.out.mono ?_
                  rintro e W5 ⟨rfl, b3⟩
                  replace S := Lib.hid (S.out.below b3)
                  replace T := Lib.hid (T.out.below b3)
                  replace C := Lib.hid (C.out.trans (b3.mono C.out.size))
                  clear b3 HI Hat
                  go_wp2_with fail
                  refine (HHk.out _ S.out).mono ?_
                  rintro e W6 ⟨rfl, b3⟩
                  replace S := Lib.hid (S.out.below b3)
                  replace T := Lib.hid (T.out.below b3)
                  replace C := Lib.hid (C.out.trans (b3.mono C.out.size))
                  clear b3 HHk
                  go_wp2_with fail
                  go_roundw
                  case rel => exact ⟨k + 1, by omega, by go_num, by rw [HCS.out] <;> go_num, S, T, C⟩
                  case measure => simp [intOf]; omega
                | true =>
                  have e1 : idF (L.getD k zeroA).1 (L.getD k zeroA).2 = keyF (L.getD k zeroA) := by unfold idF; rw [hok]; rfl
                  have e2 : errF (L.getD k zeroA).1 (L.getD k zeroA).2 = 0 := by unfold errF; rw [hok]; rfl
                  rw [if_pos (show okA (L.getD k zeroA) = true from hok)] at hcs
                  rw [e1, e2] at HI
                  clear e1 e2
                  have HHk := Lib.hid (fun W hS => HH.out (⟨(keyF (L.getD k zeroA)).toArray⟩ : ByteArray) W hS (by show (keyF (L.getD k zeroA)).length ≤ maxLen; rw [keyF_length]; decide))
                  have hhas : hasE (ofL L) (⟨(keyF (L.getD k zeroA)).toArray⟩ : ByteArray).data.toList = true := by rw [key_bytes]; exact ofL_hasE L (by omega) (getD_mem hlt) hok
                  rw [hhas] at HHk
                  clear hok
                  generalize (⟨(keyF (L.getD k zeroA)).toArray⟩ : ByteArray) = kb at *
                  clear hhas HH
                  generalize L.getD k zeroA = f at *
                  obtain ⟨u, t⟩ := f
                  dsimp only at *
                  generalize hcc : cntF L k = cc at *
                  clear hcc
                  have HCS := Lib.hid hcs
                  clear hcs
                  go_wp2_with (refine wpList_load_at rfl _ rfl _ _ rfl _ _ Hat.out ?_)
                  refine HI.out.mono ?_
                  rintro e W5 ⟨rfl, b3⟩
                  replace S := Lib.hid (S.out.below b3)
                  replace T := Lib.hid (T.out.below b3)
                  replace C := Lib.hid (C.out.trans (b3.mono C.out.size))
                  clear b3 HI Hat
                  go_wp2_with fail
                  refine (HHk.out _ S.out).mono ?_
                  rintro e W6 ⟨rfl, b3⟩
                  replace S := Lib.hid (S.out.below b3)
                  replace T := Lib.hid (T.out.below b3)
                  replace C := Lib.hid (C.out.trans (b3.mono C.out.size))
                  clear b3 HHk
                  go_wp2_with fail
                  go_roundw
                  case rel => exact ⟨k + 1, by omega, by go_num, by rw [HCS.out] <;> go_num, S, T, C⟩
                  case measure => simp [intOf]; omega
              · obtain rfl : k = L.length := by omega
                have k1 : (L.length : Int) ≤ (L.length : Int) := by omega
                clear hlt
                have hcnt := ofL_count L L.length (Nat.le_refl _)
                rw [List.take_length] at hcnt
                have hpos := ofL_some L (by omega)
                have hcl := cntF_le L L.length
                have HSM := Lib.hid (fun W hk hS hT => same_sets a ab q d (ofL L) EB W hk hS hT (good_of L) HG.out)
                have HLn := Lib.hid (fun W hS => Len_calls a ab (ofL L) W hS)
                have HTW := Lib.hid (fun W hs => Twins_calls L A2 cap2 W hs (by omega))
                generalize cntF L L.length = cc at *
                generalize (ofL L).length = nn at *
                have c2 : (nn : Int) ≤ (cc : Int) := by omega
                go_wp2_with fail
                refine (HSM.out _ (HK.out.keep C.out) S.out T.out).mono ?_
                rintro e W6 ⟨c, rfl, hc, b3⟩
                replace S := Lib.hid (S.out.below b3)
                replace C := Lib.hid (C.out.trans (b3.mono C.out.size))
                clear b3 HSM T
                cases c with
                | false =>
                  go_wp2_with fail
                  refine (HTW.out _ (HL.out.keep C.out)).mono ?_
                  rintro e W7 ⟨c3, rfl, hc3, b3⟩
                  have hc4 : c3 = true := by
                    by_cases hT : TwinsP L
                    · exact hc3 hT
                    · exact absurd (hc (TT.out hT)) (by decide)
                  subst hc4
                  clear hc hc3
                  replace S := Lib.hid (S.out.below b3)
                  replace C := Lib.hid (C.out.trans (b3.mono C.out.size))
                  clear b3
                  go_wp2_with fail
                  refine (HLn.out _ S.out).mono ?_
                  rintro e W9' ⟨rfl, rfl⟩
                  by_cases hcz : cc = 0
                  · subst hcz
                    go_wp2_with fail
                    go_ret
                    exact ⟨rfl, B.out.trans (Below.mono C.out B.out.size)⟩
                  · have hn := hpos hcz
                    have n1 : (0 : Int) < (nn : Int) := by omega
                    have c3 : ¬ (cc : Int) = 0 := by omega
                    clear hpos
                    go_wp2_with fail
                    refine (HLn.out _ S.out).mono ?_
                    rintro e W9' ⟨rfl, rfl⟩
                    go_wp2_with fail
                    go_ret
                    exact ⟨rfl, B.out.trans (Below.mono C.out B.out.size)⟩
                | true =>
                  go_wp2_with fail
                  refine (HLn.out _ S.out).mono ?_
                  rintro e W9' ⟨rfl, rfl⟩
                  by_cases hcz : cc = 0
                  · subst hcz
                    go_wp2_with fail
                    go_ret
                    exact ⟨rfl, B.out.trans (Below.mono C.out B.out.size)⟩
                  · have hn := hpos hcz
                    have n1 : (0 : Int) < (nn : Int) := by omega
                    have c3 : ¬ (cc : Int) = 0 := by omega
                    clear hpos
                    go_wp2_with fail
                    refine (HLn.out _ S.out).mono ?_
                    rintro e W9' ⟨rfl, rfl⟩
                    go_wp2_with fail
                    go_ret
                    exact ⟨rfl, B.out.trans (Below.mono C.out B.out.size)⟩
end Go.Proofs.YtmhphmolbjjopaaDoor
