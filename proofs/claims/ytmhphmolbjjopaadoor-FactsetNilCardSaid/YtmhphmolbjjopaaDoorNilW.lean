/- The walk of FactsetNil. -/
import Derived.Test.YtmhphmolbjjopaaDoorSne
import Derived.Test.YtmhphmolbjjopaaDoorNip
import Derived.Test.YtmhphmolbjjopaaDoorRfV
namespace Go.Proofs.YtmhphmolbjjopaaDoor
open Go.RowKit Go.Maps
theorem strs_keep_row {w0 w w' : World} {A : Option Addr} {l : List Bs} {b : Nat} (h0 : Strs w0 A l) (h : Strs w A l) (hb : w0.heap.size ≤ b) (hg : w.grownBy w' (some b)) : Strs w' A l := by
  by_cases hl : l = []
  · exact .inl hl
  · rcases h with h | ⟨g, o, rfl, h⟩
    · exact .inl h
    · rcases h0 with h0 | ⟨g0, o0, e, h0⟩
      · exact absurd h0 hl
      · cases e
        have hlt : g < w0.heap.size := lt_of_cell (h0 0 (List.length_pos_iff.2 hl))
        refine .inr ⟨g, o, rfl, fun i hi => ?_⟩
        rw [World.grownBy.cell_far hg ⟨g, o + i, none⟩ (lt_of_cell (h i hi)) (fun e => by have := Option.some.inj e; simp at this; omega)]
        exact h i hi
theorem getD_memN {l : List Bs} {k : Nat} (h : k < l.length) : l.getD k [] ∈ l := by
  rw [List.getD_eq_getElem?_getD, List.getElem?_eq_getElem h]; exact List.getElem_mem h
theorem asc_getN {l : List Bs} (h : l.Pairwise (fun a b => Op.bytesLess a b = true)) {i j : Nat} (hij : i < j) (hj : j < l.length) : Op.bytesLess (l.getD i []) (l.getD j []) = true := by
  have h1 := List.pairwise_iff_getElem.1 h i j (by omega) hj hij
  rw [List.getD_eq_getElem?_getD, List.getD_eq_getElem?_getD, List.getElem?_eq_getElem hj, List.getElem?_eq_getElem (show i < l.length by omega)]; exact h1
theorem take_nextN {l : List Bs} {x : Bs} {j : Nat} (hj : j < l.length) (h : x ∉ l.take j) (hne : l.getD j [] ≠ x) : x ∉ l.take (j + 1) := by
  rw [List.getD_eq_getElem?_getD, List.getElem?_eq_getElem hj] at hne
  rw [List.take_add_one, List.getElem?_eq_getElem hj, List.mem_append]
  rintro (h1 | h1)
  · exact h h1
  · simp only [Option.toList_some, List.mem_singleton] at h1
    exact hne h1.symm
theorem plus_valid (f : Fa) : plusB [] f = okA f ∧ plusN [] f = (if okA f = true then 0 else 60) := by
  cases h : okA f with
  | true => exact ⟨(plus_one f h).1, (plus_one f h).2.1⟩
  | false => unfold plusB plusN; rw [h]; exact ⟨rfl, rfl⟩
set_option maxRecDepth 100000 in
set_option maxHeartbeats 8000000 in
theorem nil_walk (u : Nat → Int) (t : ByteArray) (A : Option Addr) (l : List Bs) (cap : Nat) (w : World) (hK : Konst w) (_hu : Ints u) (htz : t.size ≤ 9223372036854775807) (hc : l.length ≤ cap) (hl : l.length ≤ 9223372036854775807) (hs : Strs w A l) (hn : A = none → cap = 0) (hx : ∀ x ∈ l, x.length ≤ 281474976710656) :
    Calls Tryd.prog 9 #[.agg (factC u t), .slice A l.length cap] w fun e W' => e = .returned (.bool true) ∧ Below w.heap.size w W' := by
  have HK := Lib.hid (fun W (hb : Below w.heap.size w W) => hK.keep hb)
  have HS : HS w A l := Lib.hid hs
  have HX := Lib.hid hx
  have HN := Lib.hid hn
  clear hK hs hx hn
  have hbox : Below w.heap.size w (w.alloc (.cells (factC u t) 33)) := (Below.refl _ w).alloc (Nat.le_refl _) _
  have HSA := Lib.hid (sane_calls _ (HK.out _ hbox))
  go_enter Tryd.func9, Tryd.ntmps9
  generalize hcs : factC u t = cs at *
  go_wp2_with fail
  refine (HSA.out).mono ?_
  rintro e W1 ⟨rfl, b1⟩
  have f1 : W1.heap[w.heap.size]? = some (.cells cs 33 (0, 0)) := (b1.block _ ((Array.getElem?_eq_some_iff.1 (heap_new w _)).1)).trans (heap_new w _)
  have B := Lib.hid (hbox.trans (b1.mono hbox.size))
  clear b1 hbox HSA
  rw [← hcs] at f1
  have c17 : W1.cell? ⟨w.heap.size, 17, none⟩ = some (.string t) := by rw [cell_of_row _ _ _ _ _ _ f1]; rfl
  have z17 : W1.frozen? ⟨w.heap.size, 17, none⟩ = false := frozen_of_row _ _ _ _ _ f1
  have hct : t.extract 0 (min (t.size : Int) 2100).toNat = (cutA (u, t)).2 := cutA_text t
  generalize hcte : (cutA (u, t)).2 = ct at *
  go_upto_region 3 with (fail)
  obtain ⟨W2, hW2, f2, b2⟩ : ∃ W2, W1.setCell ⟨w.heap.size, 17, none⟩ (.string ct) = W2 ∧ W2.heap[w.heap.size]? = some (.cells (factC u ct) 33 (0, 0)) ∧ Below w.heap.size w W2 :=
    ⟨_, rfl, text_row ct f1, B.out.setCell (p := ⟨w.heap.size, 17, none⟩) (Nat.le_refl _) _⟩
  rw [hW2]
  clear hW2 f1 c17 z17 hct B hcs
  have B := Lib.hid b2
  have F := Lib.hid f2
  clear b2 f2
  have hm0 : 0 ≤ min (l.length : Int) 10 := by omega
  have hm1 : min (l.length : Int) 10 ≤ (l.length : Int) := by omega
  have hm2 : min (l.length : Int) 10 ≤ (cap : Int) := by omega
  have hal : Below W2.heap.size W2 (W2.alloc (.cells #[] 9)) := (Below.refl _ W2).alloc (Nat.le_refl _) _
  obtain ⟨n, hn⟩ : ∃ n, (min (l.length : Int) 10).toNat = n := ⟨_, rfl⟩
  have hn10 : n ≤ 10 := by omega
  have hnl : n ≤ l.length := by omega
  have hln : (l.take n).length = n := by rw [List.length_take]; omega
  have hst : Strs (W2.alloc (.cells #[] 9)) A (l.take n) := by
    rcases Hid.out (HS.keep B.out) with h | ⟨b, o, e, h⟩
    · exact .inl (by rw [h, List.take_nil])
    · refine .inr ⟨b, o, e, fun i hi => ?_⟩
      have h1 := (StrsAt.keep h hal) i (by omega)
      rw [h1, List.getD_eq_getElem?_getD, List.getD_eq_getElem?_getD, List.getElem?_take_of_lt (by omega)]
  obtain ⟨v6, W6, happ, hrow1, hgr1⟩ := append_strs W2.heap.size (W2.alloc (.cells #[] 9)) (RowS.empty W2 W2.heap.size (Nat.le_refl _)) (c := cap) hst (fun e => ⟨HN.out e, by rw [strs_none (Hid.out HS) e, List.take_nil]⟩) hal.size (by rw [hln, List.length_nil]; omega) 44
  rw [hln, ← hn] at happ
  rw [List.nil_append] at hrow1
  have Hi10 := Lib.hid (show (l.take n).length ≤ 10 by rw [hln]; exact hn10)
  have Hn := Lib.hid hn
  have Hln := Lib.hid hln
  have Hst := Lib.hid hst
  have Hrow := Lib.hid hrow1
  have Hgr := Lib.hid hgr1
  have Hal := Lib.hid hal
  clear hn hln hst hrow1 hgr1 hal hnl hn10
  go_upto_region 4 with (at_builtin; refine wpList_append_run rfl _ _ _ rfl _ _ rfl rfl happ ?_)
  have hn := Hn.out
  have hln := Hln.out
  have hrow1 := Hrow.out
  have hgr1 := Hgr.out
  have hal := Hal.out
  clear Hn Hln Hrow Hgr Hal Hst
  have hbz := B.out.size
  replace F := Lib.hid (((hal.grown hgr1 hal.size (fun j e => (RowS.empty W2 W2.heap.size (Nat.le_refl _)).lt j e)).block _ (Array.getElem?_eq_some_iff.1 F.out).1).trans F.out)
  replace B := Lib.hid ((B.out.trans (hal.mono hbz)).grown hgr1 (Nat.le_trans hbz hal.size) (fun j e => Nat.le_trans hbz ((RowS.empty W2 W2.heap.size (Nat.le_refl _)).lt j e)))
  obtain ⟨AI, ci, hvi, hci, hsi, -⟩ := RowS.lies hrow1
  subst hvi
  have hxi : ∀ x ∈ l.take n, x.length ≤ 281474976710656 := fun x hx => HX.out x (List.mem_of_mem_take hx)
  clear happ hrow1 hgr1 hal hm0 hm1 hm2 HN HS HX hn hc hl hbz
  have hi10 := Hi10.out
  clear Hi10
  generalize l.take n = ids at *
  subst hln
  go_wp2_with fail
  refine (New_calls W6).mono ?_
  rintro e W7 ⟨ps, bs, rfl, hS, hp1, hb1, b3⟩
  have HS0 := Lib.hid (Hid.out hsi)
  have hb0 := hb1
  have S := Lib.hid hS
  have hbb : w.heap.size ≤ bs := Nat.le_trans B.out.size hb1
  have hfb : w.heap.size < W6.heap.size := (Array.getElem?_eq_some_iff.1 F.out).1
  have hne : bs ≠ w.heap.size := by omega
  replace F := Lib.hid ((b3.block _ (Array.getElem?_eq_some_iff.1 F.out).1).trans F.out)
  replace hsi : HS _ AI ids := hsi.keep b3
  replace B := Lib.hid (B.out.trans (b3.mono B.out.size))
  clear b3 hS hp1 hb1 hfb
  go_wp2_with (refine wpList_load_fact rfl _ rfl w.heap.size rfl u ct F.out ?_)
  refine (Add_nil (u, ct) W7).mono ?_
  rintro e W8 ⟨rfl, b3⟩
  replace S := Lib.hid (S.out.below b3)
  replace F := Lib.hid ((b3.block _ (Array.getElem?_eq_some_iff.1 F.out).1).trans F.out)
  replace hsi : HS _ AI ids := hsi.keep b3
  replace B := Lib.hid (B.out.trans (b3.mono B.out.size))
  clear b3
  go_wp2_with (refine wpList_load_fact rfl _ rfl w.heap.size rfl u ct F.out ?_)
  refine (Add_calls ps bs [] (u, ct) W8 (HK.out _ B.out) S.out good_nil).mono ?_
  rintro e W9 ⟨rfl, hS3, hg3⟩
  replace F := Lib.hid ((hg3.block _ (Array.getElem?_eq_some_iff.1 F.out).1 (fun e => hne (Option.some.inj e).symm)).trans F.out)
  have hsi9 : HS W9 AI ids := Lib.hid (strs_keep_row HS0.out (Hid.out hsi) hb0 hg3)
  replace hsi := hsi9
  replace B := Lib.hid (B.out.grown hg3 B.out.size (fun j e => by cases e; exact hbb))
  have hG : Good (plusE [] (u, ct)) := good_of [(u, ct)]
  obtain ⟨hpb, hpn⟩ := plus_valid (u, ct)
  rw [hpb, hpn]
  have hS4 := Lib.hid hS3
  generalize plusE [] (u, ct) = es at *
  replace S := hS4
  clear hS3 hg3 hS4 hsi9 HS0 hb0 hne hpb hpn
  have Hok := Lib.hid (show ∃ c, okA (u, ct) = c from ⟨_, rfl⟩)
  obtain ⟨ok, hok⟩ := Hok.out
  clear Hok
  rw [hok]
  obtain ⟨z, hz⟩ : ∃ z : Int, z = (if ok = true then 0 else 60) := ⟨_, rfl⟩
  rw [← hz]
  have HZ := Lib.hid hz
  clear hz
  have HV := Lib.hid (fun W => refValid_calls u ct W)
  rw [show okT u ct = ok from hok] at HV
  clear hok
  go_wp2_with fail
  refine (Get_nil ⟨#[]⟩ W9).mono ?_
  rintro e W10 ⟨rfl, b3⟩
  replace S := Lib.hid (S.out.below b3)
  replace F := Lib.hid ((b3.block _ (Array.getElem?_eq_some_iff.1 F.out).1).trans F.out)
  replace hsi : HS _ AI ids := hsi.keep b3
  replace B := Lib.hid (B.out.trans (b3.mono B.out.size))
  clear b3
  have hone := factC_one zeroA.1 zeroA.2
  go_upto_region 9 with (refine wpList_store_row rfl 33 _ _ rfl W10.heap.size (factC zeroA.1 zeroA.2) rfl rfl 33 (factC (fun _ => 0) ⟨#[]⟩) (heap_new W10 _) (hiC _ _) rfl hone ?_)
  obtain ⟨W11, hWD, b3⟩ : ∃ WD, (W10.alloc (.cells (factC (fun _ => 0) ⟨#[]⟩) 33)).setRow W10.heap.size (factC zeroA.1 zeroA.2) = WD ∧ Below W10.heap.size W10 WD :=
    ⟨_, rfl, below_setRow' ((Below.refl _ W10).alloc (Nat.le_refl _) _) _ _ (Nat.le_refl _)⟩
  rw [hWD]
  clear hWD hone
  replace S := Lib.hid (S.out.below b3)
  replace F := Lib.hid ((b3.block _ (Array.getElem?_eq_some_iff.1 F.out).1).trans F.out)
  replace hsi : HS _ AI ids := hsi.keep b3
  replace B := Lib.hid (B.out.trans (b3.mono B.out.size))
  clear b3
  generalize W10.heap.size = fb at *
  go_wp2_with fail
  refine (Part_nil none 0 0 W11).mono ?_
  rintro e W12 ⟨rfl, rfl⟩
  go_wp2_with fail
  refine (Part_has ps bs es [] none 0 W11 S.out hG (.inl rfl) (by decide) (by decide) (fun x hx => by cases hx) rfl).mono ?_
  rintro e W13 ⟨pq, bq, rfl, hSq, -, -, b3⟩
  replace S := Lib.hid (S.out.below b3)
  replace F := Lib.hid ((b3.block _ (Array.getElem?_eq_some_iff.1 F.out).1).trans F.out)
  replace hsi : HS _ AI ids := hsi.keep b3
  replace B := Lib.hid (B.out.trans (b3.mono B.out.size))
  clear b3
  have SQ : Hid (SetAt W13 pq bq []) := Lib.hid hSq
  clear hSq
  go_wp2_with fail
  refine (Missing_calls none [] ids AI ci W13 (.inl ⟨rfl, rfl⟩) (Hid.out hsi) (by omega) hci hxi).mono ?_
  rintro e W14 ⟨mv, rfl, hrow, -, b3⟩
  replace S := Lib.hid (S.out.below b3)
  replace F := Lib.hid ((b3.block _ (Array.getElem?_eq_some_iff.1 F.out).1).trans F.out)
  replace hsi : HS _ AI ids := hsi.keep b3
  replace B := Lib.hid (B.out.trans (b3.mono B.out.size))
  replace SQ := Lib.hid (SQ.out.below b3)
  obtain ⟨AM, cm, rfl, hcm, hsm0⟩ := RowS.slice hrow
  have hsm : HS W14 AM (missK [] ids) := Lib.hid hsm0
  clear b3 hrow hsm0 hxi
  have HA := Lib.hid (miss_asc [] ids)
  have HM := Lib.hid (miss_nil_mem ids)
  have hml : (missK [] ids).length ≤ 10 := Nat.le_trans (missK_length_le [] ids) hi10
  generalize missK [] ids = M at *
  go_upto_region 13 with (fail)
  go_loopw [19] (fun iv wr => ∃ k : Nat, k ≤ M.length ∧ iv = .int .i64 k ∧ Hid (Below W14.heap.size W14 wr)) (fun iv _ => M.length - (intOf iv).toNat)
  case atStart => exact ⟨0, by omega, rfl, Lib.hid (Below.refl _ _)⟩
  case round =>
    obtain ⟨k, hk, rfl, D⟩ := hrel
    have k0 : 0 ≤ (k : Int) := by omega
    by_cases hlt : k < M.length
    · have k1 : (k : Int) < (M.length : Int) := by omega
      rcases Hid.out hsm with hz | ⟨gl, ol, rfl, hst⟩
      · rw [hz] at hlt; exact absurd hlt (by simp)
      have c1 := (StrsAt.keep hst D.out) k hlt
      rcases Nat.eq_zero_or_pos k with hk0 | hk0
      · subst hk0
        clear HA hst
        go_wp2_with fail
        go_quiet (fail)
        go_wp2_with fail
        go_roundw
        case rel => exact ⟨1, by omega, by go_num, Lib.hid (below_drewN D.out nq)⟩
        case measure => simp [intOf]; omega
      · obtain ⟨j, rfl⟩ : ∃ n, k = n + 1 := ⟨k - 1, by omega⟩
        have c0 := (StrsAt.keep hst D.out) j (by omega)
        have hless := asc_getN HA.out (show j < j + 1 by omega) hlt
        have k2 : (0 : Int) < ((j + 1 : Nat) : Int) := by omega
        have j0 : 0 ≤ (j : Int) := by omega
        have j1 : (j : Int) < (M.length : Int) := by omega
        have e1 : ((j + 1 : Nat) : Int) - 1 = (j : Int) := by omega
        clear HA hst
        generalize hX : M.getD j [] = X at *
        generalize hY : M.getD (j + 1) [] = Y at *
        clear hX hY
        have hl1 : Op.bytesLess Y X = false := by
          cases hb : Op.bytesLess Y X with
          | false => rfl
          | true => exact absurd (ls_trans hless hb) (by rw [ls_irr]; decide)
        have hl2 : (Y == X) = false := by
          rw [beq_eq_false_iff_ne]
          rintro rfl
          rw [ls_irr] at hless; cases hless
        clear hless
        go_wp2_with fail
        go_quiet (fail)
        go_wp2_with fail
        go_roundw
        case rel => exact ⟨j + 1 + 1, by omega, by go_num, Lib.hid (below_drewN D.out nq)⟩
        case measure => simp [intOf]; omega
    · obtain rfl : k = M.length := by omega
      have k1 : (M.length : Int) ≤ (M.length : Int) := by omega
      clear hlt hk HA
      obtain ⟨WC, hWC⟩ : ∃ WC, WC = wr := ⟨_, rfl⟩
      subst hWC
      replace S := Lib.hid (S.out.below D.out)
      replace F := Lib.hid ((D.out.block _ (Array.getElem?_eq_some_iff.1 F.out).1).trans F.out)
      replace hsi : HS _ AI ids := hsi.keep D.out
      replace B := Lib.hid (B.out.trans (D.out.mono B.out.size))
      replace SQ := Lib.hid (SQ.out.below D.out)
      replace hsm : HS WC AM M := hsm.keep D.out
      clear D
      go_upto_region 18 with (fail)
      go_loopw [20] (fun iv wr => ∃ k : Nat, k ≤ ids.length ∧ iv = .int .i64 k ∧ Hid (Below WC.heap.size WC wr)) (fun iv _ => ids.length - (intOf iv).toNat)
      case atStart => exact ⟨0, by omega, rfl, Lib.hid (Below.refl _ _)⟩
      case round =>
        obtain ⟨k, hk, rfl, D⟩ := hrel
        have q0 : 0 ≤ (k : Int) := by omega
        by_cases hlt : k < ids.length
        · have q1 : (k : Int) < (ids.length : Int) := by omega
          have hkm : ids.getD k [] ∈ M := (HM.out _).2 (getD_memN hlt)
          go_upto_region 22 with (fail)
          go_loopw [21, 22] (fun fv jv wr => ∃ (j : Nat) (c : Bool), j ≤ M.length ∧ jv = .int .i64 j ∧ fv = .bool c ∧ (c = false → ids.getD k [] ∉ M.take j) ∧ Hid (Below WC.heap.size WC wr)) (fun _ jv _ => M.length - (intOf jv).toNat)
          case atStart => exact ⟨0, false, by omega, rfl, rfl, fun _ => by simp, D⟩
          case round =>
            clear D
            obtain ⟨j, c, hj, rfl, rfl, hc, D⟩ := hrel
            have j0 : 0 ≤ (j : Int) := by omega
            by_cases hlt2 : j < M.length
            · have j1 : (j : Int) < (M.length : Int) := by omega
              rcases Hid.out hsm with hz | ⟨gl, ol, rfl, hst⟩
              · rw [hz] at hlt2; exact absurd hlt2 (by simp)
              rcases Hid.out hsi with hz | ⟨gi, oi, rfl, hsti⟩
              · rw [hz] at hlt; exact absurd hlt (by simp)
              cases c with
              | true =>
                clear hst hsti
                go_wp2_with fail
                go_quiet (fail)
                go_wp2_with fail
                go_roundw
                case rel => exact ⟨j + 1, true, by omega, by go_num, rfl, fun h => by (cases h), Lib.hid (below_drewN D.out nq)⟩
                case measure => simp [intOf]; omega
              | false =>
                have c1 := (StrsAt.keep hst D.out) j hlt2
                have c2 := (StrsAt.keep hsti D.out) k hlt
                have hnx := (fun e => take_nextN hlt2 (hc rfl) e)
                clear hst hsti hc hkm
                generalize M.getD j [] = X at *
                generalize hY : ids.getD k [] = Y at *
                have HY := Lib.hid hY
                clear hY
                cases heq : X == Y with
                | true =>
                  go_wp2_with fail
                  go_quiet (fail)
                  go_wp2_with fail
                  go_roundw
                  case rel => exact ⟨j + 1, true, by omega, by go_num, by first | rfl | rw [heq], fun h => by (cases h), Lib.hid (below_drewN D.out nq)⟩
                  case measure => simp [intOf]; omega
                | false =>
                  go_wp2_with fail
                  go_quiet (fail)
                  go_wp2_with fail
                  go_roundw
                  case rel => exact ⟨j + 1, false, by omega, by go_num, by first | rfl | rw [heq], fun _ => hnx (fun e => by rw [e] at heq; simp at heq), Lib.hid (below_drewN D.out nq)⟩
                  case measure => simp [intOf]; omega
            · obtain rfl : j = M.length := by omega
              have j1 : (M.length : Int) ≤ (M.length : Int) := by omega
              have hct : c = true := by
                cases c with
                | true => rfl
                | false => exact absurd hkm (by have := hc rfl; rwa [List.take_length] at this)
              subst hct
              clear hc hkm
              go_wp2_with fail
              go_roundw
              case rel => exact ⟨k + 1, by omega, by go_num, D⟩
              case measure => simp [intOf]; omega
        · obtain rfl : k = ids.length := by omega
          have q1 : (ids.length : Int) ≤ (ids.length : Int) := by omega
          clear hlt hk HM
          replace S := Lib.hid (S.out.below D.out)
          replace F := Lib.hid ((D.out.block _ (Array.getElem?_eq_some_iff.1 F.out).1).trans F.out)
          replace hsi : HS _ AI ids := hsi.keep D.out
          replace B := Lib.hid (B.out.trans (D.out.mono B.out.size))
          replace SQ := Lib.hid (SQ.out.below D.out)
          clear D hsm hsi
          go_wp2_with (refine wpList_load_fact rfl _ rfl w.heap.size rfl u ct F.out ?_)
          refine (HV.out _).mono ?_
          rintro e WV ⟨rfl, b3⟩
          replace S := Lib.hid (S.out.below b3)
          replace SQ := Lib.hid (SQ.out.below b3)
          replace B := Lib.hid (B.out.trans (b3.mono B.out.size))
          clear b3 F HV
          go_upto_region 28 with (fail)
          cases ok with
          | false =>
            obtain rfl : z = 60 := HZ.out
            clear HZ
            go_wp2_with fail
            refine (Has_nil ⟨#[]⟩ _).mono ?_
            rintro e W' ⟨rfl, rfl⟩
            go_wp2_with fail
            refine (Len_calls pq bq [] _ SQ.out).mono ?_
            rintro e W' ⟨rfl, rfl⟩
            go_wp2_with fail
            refine (IDs_calls none [] _ (.inl ⟨rfl, rfl⟩)).mono ?_
            rintro e W15 ⟨v1, rfl, hr, b3⟩
            obtain ⟨A1, c1, rfl, -, -⟩ := RowS.slice hr
            replace S := Lib.hid (S.out.below b3)
            replace B := Lib.hid (B.out.trans (b3.mono B.out.size))
            clear hr b3
            have hz0 : (([] : List Ent).map (·.1)).length = 0 := rfl
            rw [hz0]
            clear hz0
            go_wp2_with fail
            refine (Facts_calls none [] _ (.inl ⟨rfl, rfl⟩)).mono ?_
            rintro e W16 ⟨v2, rfl, hr, b3⟩
            obtain ⟨A2, c2, rfl, -, -⟩ := FactsS.of hr
            replace S := Lib.hid (S.out.below b3)
            replace B := Lib.hid (B.out.trans (b3.mono B.out.size))
            clear hr b3
            have hz0 : ([] : List OkF).length = 0 := rfl
            rw [hz0]
            clear hz0
            go_wp2_with fail
            refine (Root_nil _).mono ?_
            rintro e W' ⟨rfl, rfl⟩
            go_wp2_with fail
            refine (Len_nil _).mono ?_
            rintro e W' ⟨rfl, rfl⟩
            go_wp2_with fail
            refine (Union_nil1 _ _).mono ?_
            rintro e W' ⟨rfl, rfl⟩
            go_wp2_with fail
            refine (Union_nil2 _ _).mono ?_
            rintro e W' ⟨rfl, rfl⟩
            go_wp2_with fail
            go_ret
            exact ⟨rfl, B.out⟩
          | true =>
            obtain rfl : z = 0 := HZ.out
            clear HZ
            go_wp2_with fail
            refine (Has_nil ⟨#[]⟩ _).mono ?_
            rintro e W' ⟨rfl, rfl⟩
            go_wp2_with fail
            refine (Len_calls pq bq [] _ SQ.out).mono ?_
            rintro e W' ⟨rfl, rfl⟩
            go_wp2_with fail
            refine (IDs_calls none [] _ (.inl ⟨rfl, rfl⟩)).mono ?_
            rintro e W15 ⟨v1, rfl, hr, b3⟩
            obtain ⟨A1, c1, rfl, -, -⟩ := RowS.slice hr
            replace S := Lib.hid (S.out.below b3)
            replace B := Lib.hid (B.out.trans (b3.mono B.out.size))
            clear hr b3
            have hz0 : (([] : List Ent).map (·.1)).length = 0 := rfl
            rw [hz0]
            clear hz0
            go_wp2_with fail
            refine (Facts_calls none [] _ (.inl ⟨rfl, rfl⟩)).mono ?_
            rintro e W16 ⟨v2, rfl, hr, b3⟩
            obtain ⟨A2, c2, rfl, -, -⟩ := FactsS.of hr
            replace S := Lib.hid (S.out.below b3)
            replace B := Lib.hid (B.out.trans (b3.mono B.out.size))
            clear hr b3
            have hz0 : ([] : List OkF).length = 0 := rfl
            rw [hz0]
            clear hz0
            go_wp2_with fail
            refine (Root_nil _).mono ?_
            rintro e W' ⟨rfl, rfl⟩
            go_wp2_with fail
            refine (Len_nil _).mono ?_
            rintro e W' ⟨rfl, rfl⟩
            go_wp2_with fail
            refine (Union_nil1 _ _).mono ?_
            rintro e W' ⟨rfl, rfl⟩
            go_wp2_with fail
            refine (Union_nil2 _ _).mono ?_
            rintro e W' ⟨rfl, rfl⟩
            go_wp2_with fail
            go_ret
            exact ⟨rfl, B.out⟩
end Go.Proofs.YtmhphmolbjjopaaDoor
