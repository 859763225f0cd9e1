/- The walk of FactsetMatchesReference. -/
import Derived.Test.YtnndnjnpkjpkpaaGreatDoorSne
import Derived.Test.YtnndnjnpkjpkpaaGreatDoorNip
import Derived.Test.YtnndnjnpkjpkpaaGreatDoorMrg
import Derived.Deep.CutRange
import Derived.Deep.CutBlock
namespace Go.Proofs.YtnndnjnpkjpkpaaGreatDoor
open Go.RowKit Go.Maps
theorem set32 (x0 x1 x2 x3 x4 x5 x6 x7 x8 x9 x10 x11 x12 x13 x14 x15 x16 x17 x18 x19 x20 x21 x22 x23 x24 x25 x26 x27 x28 x29 x30 x31 : Value) (l : List Value) (n : Nat) (v : Value) : (x0 :: x1 :: x2 :: x3 :: x4 :: x5 :: x6 :: x7 :: x8 :: x9 :: x10 :: x11 :: x12 :: x13 :: x14 :: x15 :: x16 :: x17 :: x18 :: x19 :: x20 :: x21 :: x22 :: x23 :: x24 :: x25 :: x26 :: x27 :: x28 :: x29 :: x30 :: x31 :: l).set (n + 32) v = x0 :: x1 :: x2 :: x3 :: x4 :: x5 :: x6 :: x7 :: x8 :: x9 :: x10 :: x11 :: x12 :: x13 :: x14 :: x15 :: x16 :: x17 :: x18 :: x19 :: x20 :: x21 :: x22 :: x23 :: x24 :: x25 :: x26 :: x27 :: x28 :: x29 :: x30 :: x31 :: l.set n v := rfl
theorem putL_step (l : List Value) (ds : List Deferred) (n : Nat) (v : Value) (ps : List (Nat × Value)) : putL ⟨l.toArray, ds⟩ ((n, v) :: ps) = putL ⟨(l.set n v).toArray, ds⟩ ps := by
  show putL (Act.put ⟨l.toArray, ds⟩ (some n) v) ps = _
  rw [put_lit]
theorem putL_end (a : Act) : putL a [] = a := rfl
theorem cell_two0 (w : World) (t : TypeId) (x y : Value) : (w.alloc (.cells #[x, y] t)).cell? ⟨w.heap.size, 0, none⟩ = some x := by rw [cell_of_row _ _ _ _ _ _ (heap_new w _)]; rfl
theorem cell_two1 (w : World) (t : TypeId) (x y : Value) : (w.alloc (.cells #[x, y] t)).cell? ⟨w.heap.size, 1, none⟩ = some y := by rw [cell_of_row _ _ _ _ _ _ (heap_new w _)]; rfl
theorem box_set (w : World) : RSetAt (w.alloc (.cells #[.slice none 0 0] 33)) w.heap.size (.slice none 0 0) [] := ⟨heap_new w _, ⟨rfl, .inl ⟨rfl, rfl⟩⟩, fun e => by cases e⟩
theorem pickF_rngZ (c n : Int) (h : 1 ≤ n) : 0 ≤ pickF c n ∧ pickF c n < n := by
  unfold pickF
  split
  · exact ⟨Int.emod_nonneg _ (by omega), Int.emod_lt_of_pos _ (by omega)⟩
  · exact ⟨Int.emod_nonneg _ (by omega), Int.emod_lt_of_pos _ (by omega)⟩
theorem four_allocs (w : World) (P P' : Nat) : ∃ W, (((w.alloc (.cells #[.pointer (some ⟨P, 0, none⟩), .pointer (some ⟨P', 0, none⟩)] 27)).alloc (.cells #[.slice none 0 0] 33)).alloc (.cells #[.slice none 0 0] 33)).alloc (.cells #[.pointer (some ⟨w.heap.size + 1, 0, none⟩), .pointer (some ⟨w.heap.size + 1 + 1, 0, none⟩)] 30) = W ∧
    Below w.heap.size w W ∧ W.heap.size = w.heap.size + 1 + 1 + 1 + 1 ∧ (W.cell? ⟨w.heap.size, 0, none⟩ = some (.pointer (some ⟨P, 0, none⟩)) ∧ W.cell? ⟨w.heap.size, 1, none⟩ = some (.pointer (some ⟨P', 0, none⟩))) ∧ RSetAt W (w.heap.size + 1) (.slice none 0 0) [] ∧ RSetAt W (w.heap.size + 1 + 1) (.slice none 0 0) [] ∧
    (W.cell? ⟨w.heap.size + 1 + 1 + 1, 0, none⟩ = some (.pointer (some ⟨w.heap.size + 1, 0, none⟩)) ∧ W.cell? ⟨w.heap.size + 1 + 1 + 1, 1, none⟩ = some (.pointer (some ⟨w.heap.size + 1 + 1, 0, none⟩))) := by
  obtain ⟨a, ha⟩ : ∃ a, w.alloc (.cells #[.pointer (some ⟨P, 0, none⟩), .pointer (some ⟨P', 0, none⟩)] 27) = a := ⟨_, rfl⟩
  have ba : Below w.heap.size w a := by rw [← ha]; exact (Below.refl _ w).alloc (Nat.le_refl _) _
  have za : a.heap.size = w.heap.size + 1 := by rw [← ha]; simp
  have c0 : a.cell? ⟨w.heap.size, 0, none⟩ = some (.pointer (some ⟨P, 0, none⟩)) := by rw [← ha]; exact cell_two0 w _ _ _
  have c1 : a.cell? ⟨w.heap.size, 1, none⟩ = some (.pointer (some ⟨P', 0, none⟩)) := by rw [← ha]; exact cell_two1 w _ _ _
  obtain ⟨b, hb⟩ : ∃ b, a.alloc (.cells #[.slice none 0 0] 33) = b := ⟨_, rfl⟩
  have bb : Below a.heap.size a b := by rw [← hb]; exact (Below.refl _ a).alloc (Nat.le_refl _) _
  have zb : b.heap.size = a.heap.size + 1 := by rw [← hb]; simp
  have s1 : RSetAt b a.heap.size (.slice none 0 0) [] := by rw [← hb]; exact box_set a
  obtain ⟨c, hc⟩ : ∃ c, b.alloc (.cells #[.slice none 0 0] 33) = c := ⟨_, rfl⟩
  have bc : Below b.heap.size b c := by rw [← hc]; exact (Below.refl _ b).alloc (Nat.le_refl _) _
  have zc : c.heap.size = b.heap.size + 1 := by rw [← hc]; simp
  have s2 : RSetAt c b.heap.size (.slice none 0 0) [] := by rw [← hc]; exact box_set b
  obtain ⟨d, hd⟩ : ∃ d, c.alloc (.cells #[.pointer (some ⟨w.heap.size + 1, 0, none⟩), .pointer (some ⟨w.heap.size + 1 + 1, 0, none⟩)] 30) = d := ⟨_, rfl⟩
  have bd : Below c.heap.size c d := by rw [← hd]; exact (Below.refl _ c).alloc (Nat.le_refl _) _
  have zd : d.heap.size = c.heap.size + 1 := by rw [← hd]; simp
  have d0 : d.cell? ⟨c.heap.size, 0, none⟩ = some (.pointer (some ⟨w.heap.size + 1, 0, none⟩)) := by rw [← hd]; exact cell_two0 c _ _ _
  have d1 : d.cell? ⟨c.heap.size, 1, none⟩ = some (.pointer (some ⟨w.heap.size + 1 + 1, 0, none⟩)) := by rw [← hd]; exact cell_two1 c _ _ _
  have bad : Below a.heap.size a d := (bb.trans (bc.mono (by omega))).trans (bd.mono (by omega))
  refine ⟨d, by rw [ha, hb, hc, hd], ba.trans (bad.mono (by omega)), by omega, ⟨?_, ?_⟩, ?_, ?_, ?_, ?_⟩
  · exact (bad.cell (p := ⟨w.heap.size, 0, none⟩) (lt_of_cell c0)).trans c0
  · exact (bad.cell (p := ⟨w.heap.size, 1, none⟩) (lt_of_cell c1)).trans c1
  · rw [← za]; exact s1.below (bc.trans (bd.mono (by omega)))
  · rw [← za, ← zb]; exact s2.below bd
  · rw [show w.heap.size + 1 + 1 + 1 = c.heap.size by omega]; exact d0
  · rw [show w.heap.size + 1 + 1 + 1 = c.heap.size by omega]; exact d1
set_option maxRecDepth 100000 in
set_option maxHeartbeats 8000000 in
theorem mref_walk (A : Option Addr) (l : List Fa) (cap : Nat) (A1 : Option Addr) (cs : List Int) (cap1 : Nat) (A2 : Option Addr) (l2 : List Bs) (cap2 : Nat) (w : World) (hK : Konst w) (_hc : l.length ≤ cap) (hl : l.length ≤ 9223372036854775807) (hA : FactsS w A l) (hx : ∀ f ∈ l, FaR f)
    (_hc1 : cs.length ≤ cap1) (_hl1 : cs.length ≤ 9223372036854775807) (hA1 : IntsS w A1 cs) (hx1 : ∀ x ∈ cs, -9223372036854775808 ≤ x ∧ x ≤ 9223372036854775807)
    (hc2 : l2.length ≤ cap2) (_hl2 : l2.length ≤ 9223372036854775807) (hs2 : Strs w A2 l2) (hn2 : A2 = none → cap2 = 0) (hx2 : ∀ x ∈ l2, x.length ≤ 281474976710656) :
    Calls Tryz.prog 3 #[.slice A l.length cap, .slice A1 cs.length cap1, .slice A2 l2.length cap2] w fun e W' => e = .returned (.bool true) ∧ Below w.heap.size w W' := by
  have HSA := Lib.hid (sane_calls w hK)
  have CX := Lib.hid (fun W (hb : Below w.heap.size w W) => cut_calls l A cap W (hA.keep hb) hl (fun f hf => (hx f hf).2))
  have HK := Lib.hid (fun W (hb : Below w.heap.size w W) => hK.keep hb)
  have HI := Lib.hid (fun W (hb : Below w.heap.size w W) => hA1.keep hb)
  have HIX := Lib.hid hx1
  have HS2 : HS w A2 l2 := Lib.hid hs2
  have HX2 := Lib.hid hx2
  have HN2 := Lib.hid hn2
  clear hK hA hx hl _hc hA1 hx1 hs2 hx2 hn2
  have lX := cutL_length l
  generalize cutL l = X at *
  go_enter Tryz.func3, Tryz.ntmps3
  go_wp2_with fail
  refine HSA.out.mono ?_
  rintro e W1 ⟨rfl, b1⟩
  have B := Lib.hid b1
  clear b1 HSA
  go_wp2_with fail
  refine (CX.out W1 B.out).mono ?_
  rintro e W2 ⟨vc, rfl, hrow, b3⟩
  obtain ⟨Ac, cc, rfl, hcc, hst⟩ := RowA.slice hrow
  have FX := Lib.hid hst
  replace B := Lib.hid (B.out.trans (b3.mono B.out.size))
  clear b3 hrow hst CX
  have hm0 : 0 ≤ min (l2.length : Int) 10 := by omega
  have hm1 : min (l2.length : Int) 10 ≤ (l2.length : Int) := by omega
  have hm2 : min (l2.length : Int) 10 ≤ (cap2 : Int) := by omega
  have hal : Below W2.heap.size W2 (W2.alloc (.cells #[] 9)) := (Below.refl _ W2).alloc (Nat.le_refl _) _
  obtain ⟨n, hn⟩ : ∃ n, (min (l2.length : Int) 10).toNat = n := ⟨_, rfl⟩
  have hn10 : n ≤ 10 := by omega
  have hnl : n ≤ l2.length := by omega
  have hln : (l2.take n).length = n := by rw [List.length_take]; omega
  have hst : Strs (W2.alloc (.cells #[] 9)) A2 (l2.take n) := by
    rcases (Hid.out (HS2.keep B.out)) with h | ⟨b, o, e, h⟩
    · exact .inl (by rw [h, List.take_nil])
    · refine .inr ⟨b, o, e, fun i hi => ?_⟩
      have h1 := (StrsAt.keep h hal) i (by omega)
      rw [h1, List.getD_eq_getElem?_getD, List.getD_eq_getElem?_getD, List.getElem?_take_of_lt (by omega)]
  obtain ⟨v6, W6, happ, hrow1, hgr1⟩ := append_strs W2.heap.size (W2.alloc (.cells #[] 9)) (RowS.empty W2 W2.heap.size (Nat.le_refl _)) (c := cap2) hst (fun e => ⟨HN2.out e, by rw [strs_none (Hid.out HS2) e, List.take_nil]⟩) hal.size (by rw [hln, List.length_nil]; omega) 24
  rw [hln, ← hn] at happ
  rw [List.nil_append] at hrow1
  have Hi10 := Lib.hid (show (l2.take n).length ≤ 10 by rw [hln]; exact hn10)
  have Hn := Lib.hid hn
  have Hln := Lib.hid hln
  have Hst := Lib.hid hst
  have Hrow := Lib.hid hrow1
  have Hgr := Lib.hid hgr1
  have Hal := Lib.hid hal
  clear hn hln hst hrow1 hgr1 hal hnl hn10
  go_upto_region 4 with (at_builtin; refine wpList_append_run rfl _ _ _ rfl _ _ rfl rfl happ ?_)
  have hn := Hn.out
  have hln := Hln.out
  have hrow1 := Hrow.out
  have hgr1 := Hgr.out
  have hal := Hal.out
  clear Hn Hln Hrow Hgr Hal Hst
  have hbz := B.out.size
  have b26 : Below W2.heap.size W2 W6 := hal.grown hgr1 hal.size (fun j e => (RowS.empty W2 W2.heap.size (Nat.le_refl _)).lt j e)
  replace FX := Lib.hid (FX.out.keep b26)
  replace B := Lib.hid (B.out.trans (b26.mono hbz))
  obtain ⟨AI, ci, hvi, hci, KS, hLI⟩ := RowS.lies hrow1
  subst hvi
  have LI := Lib.hid (Lies.nil hLI)
  clear hLI
  have HXI := Lib.hid (show ∀ x ∈ l2.take n, x.length ≤ 281474976710656 from fun x hx => HX2.out x (List.mem_of_mem_take hx))
  have hi10 := Hi10.out
  clear happ hrow1 hgr1 hal b26 hm0 hm1 hm2 HN2 HS2 HX2 hn hc2 _hl2 hbz Hi10
  generalize l2.take n = ids at *
  subst hln
  go_wp2_with fail
  refine (New_calls W6).mono ?_
  rintro e W7 ⟨P, Bb, rfl, hS, hp1, hb1, b3⟩
  have SP := Lib.hid hS
  have C6 := Lib.hid b3
  clear hS b3
  go_wp2_with fail
  refine (New_calls W7).mono ?_
  rintro e W8 ⟨P', Bb', rfl, hS, hp2, hb2, b3⟩
  have hP7 := SP.out.ltp
  have hB7 := SP.out.ltb
  have hPB := SP.out.ne
  replace SP := Lib.hid (SP.out.below b3)
  have SP' := Lib.hid hS
  have hPB' := SP'.out.ne
  have hP8 := SP'.out.ltp
  have hB8 := SP'.out.ltb
  replace C6 := Lib.hid (C6.out.trans (b3.mono C6.out.size))
  clear hS b3
  go_upto_region 6 with (fail)
  obtain ⟨W9, hW9, b89, hz9, ⟨cs0, cs1⟩, rq, rq', ⟨ct0, ct1⟩⟩ := four_allocs W8 P P'
  rw [hW9]
  clear hW9
  have hz68 := C6.out.size
  have SQ := Lib.hid (SP.out.below b89)
  have SQ' := Lib.hid (SP'.out.below b89)
  have C9 := Lib.hid (C6.out.trans (b89.mono hz68))
  clear SP SP' C6 b89
  have hq1 : W8.heap.size + 1 = W8.heap.size + 1 := rfl
  clear hq1
  have h6 : Six W9.heap.size P Bb (W8.heap.size + 1) P' Bb' (W8.heap.size + 1 + 1) := ⟨⟨by omega, by omega, by omega, by omega, by omega, by omega⟩, ⟨hPB, by omega, by omega, by omega, by omega⟩, ⟨by omega, by omega, by omega, by omega⟩, ⟨by omega, by omega, by omega⟩, ⟨hPB', by omega⟩, by omega⟩
  have hD : ∀ k, Four Bb (W8.heap.size + 1) Bb' (W8.heap.size + 1 + 1) k → W6.heap.size ≤ k := fun k hk => by
    rcases hk with rfl | rfl | rfl | rfl <;> omega
  have hgD : ¬ Four Bb (W8.heap.size + 1) Bb' (W8.heap.size + 1 + 1) W8.heap.size := fun hk => by rcases hk with h | h | h | h <;> omega
  have htD : ¬ Four Bb (W8.heap.size + 1) Bb' (W8.heap.size + 1 + 1) (W8.heap.size + 1 + 1 + 1) := fun hk => by rcases hk with h | h | h | h <;> omega
  have hQ0 : Quad W9 W9 P Bb (W8.heap.size + 1) P' Bb' (W8.heap.size + 1 + 1) [] [] [] [] := ⟨_, [], _, [], SQ.out, rq, rfl, SQ'.out, rq', rfl, (fun g e => by cases e), (fun g e => by cases e), (fun g e => by cases e), Stat.refl _ _⟩
  generalize hgt : W8.heap.size + 1 + 1 + 1 = gt at *
  generalize hQq' : W8.heap.size + 1 + 1 = Q' at *
  generalize hQq : W8.heap.size + 1 = Q at *
  generalize hgs : W8.heap.size = gs at *
  clear hgt hQq' hQq hgs rq rq' SQ SQ' hz9 hp1 hb1 hp2 hb2 hP7 hB7 hPB hPB' hP8 hB8 hz68
  have HW := Lib.hid (show ∀ W, Stat W9 W (Four Bb Q Bb' Q') → Below W6.heap.size W6 W from fun W h => C9.out.trans (h.toBelow C9.out.size hD))
  have HBW := Lib.hid (show ∀ W, Stat W9 W (Four Bb Q Bb' Q') → Below w.heap.size w W from fun W h => B.out.trans ((HW.out W h).mono B.out.size))
  have HG := Lib.hid (show ∀ W, Stat W9 W (Four Bb Q Bb' Q') → (W.cell? ⟨gs, 0, none⟩ = some (.pointer (some ⟨P, 0, none⟩)) ∧ W.cell? ⟨gs, 1, none⟩ = some (.pointer (some ⟨P', 0, none⟩))) ∧ W.cell? ⟨gt, 0, none⟩ = some (.pointer (some ⟨Q, 0, none⟩)) ∧ W.cell? ⟨gt, 1, none⟩ = some (.pointer (some ⟨Q', 0, none⟩)) from fun W h => ⟨⟨h.cell cs0 hgD, h.cell cs1 hgD⟩, h.cell ct0 htD, h.cell ct1 htD⟩)
  have H6 := Lib.hid h6
  have HQ0 := Lib.hid hQ0
  clear cs0 cs1 ct0 ct1 hgD htD hD h6 hQ0 C9
  go_upto_region 7 with (fail)
  go_loopw [10] (fun iv wr => ∃ (i : Nat) (s s' : List Ent), i ≤ X.length ∧ iv = .int .i64 i ∧ Hid (Quad W9 wr P Bb Q P' Bb' Q' s s s' s') ∧ Hid (Good s) ∧ Hid (Good s')) (fun iv _ => X.length - (intOf iv).toNat)
  case atStart => exact ⟨0, [], [], by omega, rfl, HQ0, Lib.hid good_nil, Lib.hid good_nil⟩
  case round => as_aux_lemma =>
    clear HQ0
    obtain ⟨i, s, s', hi, rfl, QD, GS, GS'⟩ := hrel
    have i0 : (0 : Int) ≤ (i : Int) := by omega
    by_cases hlt : i < X.length
    rotate_left
    · obtain rfl : i = X.length := by omega
      have i1 : (X.length : Int) ≤ (X.length : Int) := by omega
      go_wp2_with fail
      go_ret
      exact ⟨rfl, HBW.out _ QD.out.stat⟩
    · have i1 : (i : Int) < (X.length : Int) := by omega
      have HIW := Lib.hid (HI.out _ (HBW.out _ QD.out.stat))
      go_upto_if 55 with (fail)
      go_cut [11] from 46 to 318 (fun cv wx => (∃ c : Int, cv = .int .i64 c ∧ 0 ≤ c ∧ c < 60) ∧ wx = wr)
      case first => as_aux_lemma =>
        by_cases hci : i < cs.length
        · have k1 : (i : Int) < (cs.length : Int) := by omega
          rcases HIW.out with hz | ⟨gc, oc, rfl, hic⟩
          · rw [hz] at hci; exact absurd hci (by simp)
          have c1 := hic i hci
          have hxr := HIX.out (cs.getD i 0) (by rw [List.getD_eq_getElem?_getD, List.getElem?_eq_getElem hci]; exact List.getElem_mem hci)
          clear hic
          generalize cs.getD i 0 = z at *
          go_wp2_with fail
          refine (pick_calls z 60 _ hxr.1 hxr.2 (by omega) (by omega)).mono ?_
          rintro e W2 ⟨rfl, rfl⟩
          have hr := pickF_rngZ z 60 (by omega)
          go_wp2_with fail
          go_meet
          case rel => exact ⟨⟨_, rfl, hr.1, hr.2⟩, rfl⟩
        · have k1 : ¬ (i : Int) < (cs.length : Int) := by omega
          go_wp2_with fail
          go_meet
          case rel => exact ⟨⟨0, rfl, by omega, by omega⟩, rfl⟩
      case rest => as_aux_lemma =>
        obtain ⟨⟨c, rfl, hc0, hc1⟩, rfl⟩ := hcut
        clear HIW
        go_upto_region 13 with (fail)
        have hk0 : 0 ≤ c % 2 ∧ c % 2 < 2 := ⟨by omega, by omega⟩
        generalize c % 2 = k at *
        obtain ⟨kk, rfl⟩ : ∃ kk : Nat, k = (kk : Int) := ⟨k.toNat, by omega⟩
        have hk2 : kk < 2 := by omega
        clear hk0
        obtain ⟨jj, P0, B0, Q0, P1, B1, Q1, t0, t1, ⟨hjj, hj2⟩, h6, hQ, hG0, hG1, hF, hG, hback⟩ := orient (gs := gs) (gt := gt) kk hk2 QD.out GS.out GS'.out H6.out HG.out
        have hQs := hQ.mono4 hF
        have QD0 := Lib.hid hQ; have G0 := Lib.hid hG0; have G1 := Lib.hid hG1; have HF := Lib.hid hF; have H6k := Lib.hid h6; have HGk := Lib.hid hG; have HBK := Lib.hid hback
        clear QD GS GS' hQ hG0 hG1 hF h6 hG hback H6 HG
        have k0 : (0 : Int) ≤ (kk : Int) := by omega
        have k2 : (kk : Int) < 2 := by omega
        have j0 : (0 : Int) ≤ (jj : Int) := by omega
        have j2 : (jj : Int) < 2 := by omega
        have q3 : IntKind.i64.wrap (1 - (kk : Int)) = (jj : Int) := by rw [hjj]; exact IntWalk.i64_in _ (by omega)
        clear hjj hk2 hj2
        rcases FX.out with hz | ⟨bX, oX, rfl, hfX⟩
        · rw [hz] at hlt; exact absurd hlt (by simp)
        have HFX := Lib.hid (fun W (h : Stat W9 W (Four Bb Q Bb' Q')) => (hfX.keep (HW.out W h)) i hlt)
        generalize hfg : X.getD i zeroA = f at *
        clear hfg hfX
        obtain ⟨v, t⟩ := f
        refine reg13 _ rfl (HG := HGk.out) (k0 := k0) (k2 := k2) (_j0 := j0) (_j2 := j2) (_q3 := q3) (H6 := H6k.out) (HF := HF.out) (i0 := i0) (i1 := i1) (HFX := HFX.out) (hQ := QD0.out) (G0 := G0.out) (hK := fun W h => HK.out _ (HBW.out W h)) rfl rfl rfl rfl _ ?_
        intro _ _ _ _ _ _ _ _ _ _ _ _ _ _ W20 hres
        obtain ⟨rfl, rfl, hq⟩ := hres
        (repeat (rewrite [putL_step]; dsimp only [set32, List.set_cons_zero, List.set_cons_succ])); rewrite [putL_end]
        replace QD0 := Lib.hid hq
        clear hq
        go_upto_region 14 with (fail)
        refine reg14 _ rfl (HG := HGk.out) (k0 := k0) (k2 := k2) (_j0 := j0) (_j2 := j2) (_q3 := q3) (H6 := H6k.out) (HF := HF.out) (i0 := i0) (i1 := i1) (HFX := HFX.out) (hQ := QD0.out) (G0 := G0.out) rfl rfl rfl rfl _ ?_
        intro _ _ _ _ _ _ _ _ _ _ _ _ _ _ W21 hres
        obtain ⟨rfl, rfl, hq⟩ := hres
        (repeat (rewrite [putL_step]; dsimp only [set32, List.set_cons_zero, List.set_cons_succ])); rewrite [putL_end]
        replace QD0 := Lib.hid hq
        clear hq
        clear HFX
        replace G0 := Lib.hid (good_add G0.out (v, t))
        generalize plusE t0 (v, t) = a0 at *
        generalize plusB t0 (v, t) = pb at *
        generalize plusN t0 (v, t) = pn at *
        go_upto_region 17 with (fail)
        have hc2 : 0 ≤ c / 2 % 6 ∧ c / 2 % 6 < 6 := ⟨by omega, by omega⟩
        go_upto_block 2 with (fail)
        generalize c / 2 % 6 = m at *
        go_cut [17, 18, 19, 20, 21, 22] from 98 to 318 (fun _ _ _ _ _ _ wx => ∃ a b : List Ent, Hid (Quad W9 wx P0 B0 Q0 P1 B1 Q1 a a b b) ∧ Hid (Good a) ∧ Hid (Good b))
        case first => as_aux_lemma =>
          by_cases hm0 : m = 0
          · subst hm0
            go_upto_region 19 with (fail)
            refine reg19 _ rfl (HG := HGk.out) (k0 := k0) (k2 := k2) (j0 := j0) (j2 := j2) (q3 := q3) (H6 := H6k.out) (HF := HF.out) (hQ := QD0.out) (G0 := G0.out) (G1 := G1.out) rfl rfl rfl _ ?_
            intro _ _ _ _ _ _ _ _ _ _ _ _ _ _ _ _ _ _ _ _ _ W22 hres
            obtain ⟨rfl, hq⟩ := hres
            (repeat (rewrite [putL_step]; dsimp only [set32, List.set_cons_zero, List.set_cons_succ])); rewrite [putL_end]
            replace QD0 := Lib.hid hq
            clear hq
            go_wp2_with fail
            go_meet
            exact ⟨uniS a0 t1, t1, QD0, Lib.hid (good_uni G0.out G1.out), G1⟩
          · go_upto_if 121 with (fail)
            go_cut [121] from 122 to 318 (fun v wx => v = .bool (decide (m = 1 ∨ m = 2)) ∧ wx = W21)
            case first => as_aux_lemma =>
              by_cases hm1 : m = 1
              · subst hm1; go_wp2_with fail; go_meet; exact ⟨rfl, rfl⟩
              · by_cases hm2 : m = 2
                · subst hm2; go_wp2_with fail; go_meet; exact ⟨rfl, rfl⟩
                · go_wp2_with fail; go_meet; exact ⟨by rw [decide_eq_false (by omega), beq_eq_false_iff_ne.2 hm2], rfl⟩
            case rest => as_aux_lemma =>
              obtain ⟨rfl, rfl⟩ := hcut
              by_cases hm12 : m = 1 ∨ m = 2
              rotate_left
              · rw [decide_eq_false hm12]
                go_wp2_with fail
                go_meet
                exact ⟨a0, t1, QD0, G0, G1⟩
              · rw [decide_eq_true hm12]
                clear hm12 hm0
                obtain ⟨rv, rl, hR, hrl⟩ := QD0.out.ref
                have c1 := (HGk.out _ (QD0.out.mono4 HF.out)).2.2.1
                go_wp2_with fail
                refine (rIDs_calls Q0 rv rl _ hR (esR_le hrl G0.out)).mono ?_
                rw [hrl]
                rintro e W24 ⟨va, rfl, hrow, b3⟩
                obtain ⟨AL, cL, rfl, hcL, KL, hLL⟩ := RowS.lies hrow
                have LL := Lib.hid (Lies.nil hLL)
                have hnL := ids_short G0.out
                have HXL := Lib.hid hnL.2
                have hnl := hnL.1
                have KI := Lib.hid (((Hid.out KS).keep (HW.out _ (QD0.out.mono4 HF.out))).keep b3)
                replace QD0 := Lib.hid (QD0.out.below b3)
                clear b3 hrow hLL hnL hR hrl c1
                generalize idsE a0 = L at *
                go_upto_region 24 with (fail)
                refine reg24 _ rfl (KI := KI.out) (LI := LI.out) (hi10 := hi10) (HXI := HXI.out) (KL := Hid.out KL) (hcL := hcL) (hl0 := hnl) (LL := LL.out) (HXL := HXL.out) rfl rfl _ ?_
                intro _ _ _ _ _ _ _ _ _ _ W25 hres
                obtain ⟨As, s1, cs1, rfl, hs1, hc1s, hl1s, hx1s, hb1s⟩ := hres
                (repeat (rewrite [putL_step]; dsimp only [set32, List.set_cons_zero, List.set_cons_succ])); rewrite [putL_end]
                have HS1 := Lib.hid hs1; have HX1 := Lib.hid hx1s; have HB1 := Lib.hid hb1s
                clear hs1 hx1s hb1s
                go_upto_if 141 with (fail)
                go_cut [18] from 138 to 318 (fun v wx => ∃ (As : Option Addr) (ss : List Bs) (cs2 : Nat), v = .slice As ss.length cs2 ∧ Hid (Strs wx As ss) ∧ ss.length ≤ cs2 ∧ ss.length ≤ 20000 ∧ Hid (∀ x ∈ ss, x.length ≤ 281474976710656) ∧ Hid (Below W24.heap.size W24 wx))
                case first => as_aux_lemma =>
                  by_cases hbit : c / 12 % 2 = 0
                  rotate_left
                  · go_wp2_with fail; go_meet; exact ⟨As, s1, cs1, rfl, HS1, hc1s, hl1s, HX1, HB1⟩
                  · go_upto_region 26 with (fail)
                    refine reg26 _ rfl (KL := (Hid.out KL).keep HB1.out) (hcL := hcL) (hl0 := hnl) (LL := LL.out) (HXL := HXL.out) rfl _ ?_
                    intro _ _ _ _ _ _ _ _ _ _ _ _ _ _ W26 hres
                    obtain ⟨As2, s2, cs3, rfl, hs2, hc2s, hl2s, hx2s, hb2s⟩ := hres
                    (repeat (rewrite [putL_step]; dsimp only [set32, List.set_cons_zero, List.set_cons_succ])); rewrite [putL_end]
                    have HS2 := Lib.hid hs2; have HX2 := Lib.hid hx2s; have HB2 := Lib.hid (HB1.out.trans (hb2s.mono HB1.out.size))
                    clear hs2 hx2s hb2s
                    go_wp2_with fail
                    go_meet
                    exact ⟨As2, s2, cs3, rfl, HS2, hc2s, hl2s, HX2, HB2⟩
                case rest => as_aux_lemma =>
                  clear HB1 HS1 HX1 hc1s hl1s KL LL HXL hnl hcL KI
                  obtain ⟨As, ss, cs2, rfl, HSS, hcs2, hsl, HSX, HB5⟩ := hcut
                  replace QD0 := Lib.hid (QD0.out.below HB5.out)
                  clear HB5
                  obtain ⟨is, his⟩ : ∃ is, is = decide (missK a0 ss = []) := ⟨_, rfl⟩
                  have HIS := Lib.hid his
                  clear his
                  have c1 := (HGk.out _ (QD0.out.mono4 HF.out)).1
                  have HP1 := Lib.hid (partZ P0 B0 a0 ss As cs2 QD0.out.set G0.out HSS.out hsl hcs2 HSX.out is HIS.out)
                  go_wp2_with fail
                  refine (HP1.out).mono ?_
                  rintro e W26 ⟨⟨q1, rfl, hq1⟩, b3⟩
                  replace QD0 := Lib.hid (QD0.out.below b3)
                  replace HSS := Lib.hid (HSS.out.keep b3)
                  have HQ1 := Lib.hid hq1
                  clear b3 hq1 c1 HP1
                  have c1 := (HGk.out _ (QD0.out.mono4 HF.out)).2.2.1
                  obtain ⟨rv, rl, hR, hrl⟩ := QD0.out.ref
                  have HP1 := Lib.hid (rPartZ Q0 rv rl a0 ss As cs2 hR hrl G0.out HSS.out hsl is HIS.out)
                  clear hR hrl
                  go_wp2_with fail
                  refine (HP1.out).mono ?_
                  rintro e W27 ⟨⟨q2, rfl, hq2⟩, b3⟩
                  replace QD0 := Lib.hid (QD0.out.below b3)
                  replace HSS := Lib.hid (HSS.out.keep b3)
                  have hq1' : is = true → ∃ p' b', q1 = some ⟨p', 0, none⟩ ∧ SetAt W27 p' b' (partE a0 ss) := fun h => by
                    obtain ⟨p', b', e, hS⟩ := HQ1.out h
                    exact ⟨p', b', e, hS.below b3⟩
                  replace HQ1 := Lib.hid hq1'
                  have HQ2 := Lib.hid hq2
                  clear b3 hq2 c1 HP1 hq1'
                  go_upto_region 29 with (fail)
                  cases is with
                  | false => as_aux_lemma =>
                    refine reg29f _ rfl (HG := HGk.out) (_k0 := k0) (_k2 := k2) (j0 := j0) (j2 := j2) (q3 := q3) (_H6 := H6k.out) (HF := HF.out) (HSS := HSS.out) (hcs2 := hcs2) (hsl := hsl) (HSX := HSX.out) (hQ := QD0.out) (G1 := G1.out) rfl rfl rfl rfl rfl rfl _ ?_
                    intro _ _ _ _ _ _ _ _ _ _ _ _ _ _ _ _ _ _ _ _ _ _ _ _ _ _ _ _ _ _ _ _ _ _ _ _ _ _ _ _ W28 hres
                    obtain ⟨rfl, hb⟩ := hres
                    (repeat (rewrite [putL_step]; dsimp only [set32, List.set_cons_zero, List.set_cons_succ])); rewrite [putL_end]
                    replace QD0 := Lib.hid (QD0.out.below hb)
                    clear hb
                    go_wp2_with fail
                    go_meet
                    exact ⟨a0, t1, QD0, G0, G1⟩
                  | true => as_aux_lemma =>
                    obtain ⟨p', b', rfl, hS1⟩ := HQ1.out rfl
                    obtain ⟨q', v', l', rfl, hR2, he2⟩ := HQ2.out rfl
                    have hGp := good_part G0.out (of_decide_eq_true HIS.out.symm)
                    clear HQ1 HQ2 HIS
                    generalize partE a0 ss = pe at *
                    have HS9 := Lib.hid hS1; have HR9 := Lib.hid hR2; have HE9 := Lib.hid he2; have HG9 := Lib.hid hGp
                    clear hS1 hR2 he2 hGp
                    refine reg29t _ rfl (HG := HGk.out) (_k0 := k0) (_k2 := k2) (j0 := j0) (j2 := j2) (q3 := q3) (_H6 := H6k.out) (HF := HF.out) (HSS := HSS.out) (hcs2 := hcs2) (hsl := hsl) (HSX := HSX.out) (hQ := QD0.out) (G1 := G1.out) (hS1 := HS9.out) (hR2 := HR9.out) (he2 := HE9.out) (hGp := HG9.out) rfl rfl rfl rfl rfl rfl rfl rfl _ ?_
                    intro _ _ _ _ _ _ _ _ _ _ _ _ _ _ _ _ _ _ _ _ _ _ _ _ _ _ _ _ _ _ _ _ _ _ _ _ _ _ _ _ W28 hres
                    obtain ⟨rfl, hb⟩ := hres
                    (repeat (rewrite [putL_step]; dsimp only [set32, List.set_cons_zero, List.set_cons_succ])); rewrite [putL_end]
                    replace QD0 := Lib.hid (QD0.out.below hb)
                    clear hb HS9 HR9 HE9 HG9
                    go_wp2_with fail
                    go_meet
                    exact ⟨a0, t1, QD0, G0, G1⟩
        case rest => as_aux_lemma =>
          clear QD0 G0 G1
          obtain ⟨a0, t1, QD0, G0, G1⟩ := hcut
          go_upto_region 31 with (fail)
          refine reg31 _ rfl (HG := HGk.out) (k0 := k0) (k2 := k2) (_j0 := j0) (_j2 := j2) (_q3 := q3) (_H6 := H6k.out) (HF := HF.out) (hQ := QD0.out) (G0 := G0.out) (hK := fun W h => HK.out _ (HBW.out W h)) rfl rfl rfl _ ?_
          intro _ _ _ _ _ _ _ _ _ _ _ _ _ _ _ _ _ _ _ _ _ _ _ _ _ _ _ _ _ _ _ _ _ _ _ _ _ _ _ _ _ _ _ _ _ _ _ _ _ _ _ _ _ _ _ W31 hres
          obtain ⟨rfl, hb⟩ := hres
          (repeat (rewrite [putL_step]; dsimp only [set32, List.set_cons_zero, List.set_cons_succ])); rewrite [putL_end]
          replace QD0 := Lib.hid (QD0.out.below hb)
          clear hb
          go_upto_region 34 with (fail)
          obtain ⟨WC, hWC⟩ : ∃ WC, WC = W31 := ⟨_, rfl⟩
          subst hWC
          have KI := Lib.hid ((Hid.out KS).keep (HW.out _ (QD0.out.mono4 HF.out)))
          go_loopw [23] (fun nv wx => ∃ n : Nat, n ≤ ids.length ∧ nv = .int .i64 n ∧ Hid (Below WC.heap.size WC wx)) (fun nv _ => ids.length - (intOf nv).toNat)
          case atStart => exact ⟨0, by omega, rfl, Lib.hid (Below.refl _ _)⟩
          case round => as_aux_lemma =>
            obtain ⟨n, hn, rfl, D⟩ := hrel
            have n0 : (0 : Int) ≤ (n : Int) := by omega
            by_cases hln : n < ids.length
            rotate_left
            · obtain rfl : n = ids.length := by omega
              have n1 : (ids.length : Int) ≤ (ids.length : Int) := by omega
              replace QD0 := Lib.hid (QD0.out.below D.out)
              go_wp2_with fail
              go_roundw
              case rel =>
                obtain ⟨s, s', h1, h2, h3⟩ := HBK.out _ _ _ QD0.out G0.out G1.out
                exact ⟨i + 1, s, s', by omega, by go_num, h1, h2, h3⟩
              case measure => simp [intOf]; omega
            · have n1 : (n : Int) < (ids.length : Int) := by omega
              have QD1 := Lib.hid (QD0.out.below D.out)
              rcases KI.out with hz | ⟨gI, oI, hAI, hst⟩
              · rw [hz] at hln; exact absurd hln (by simp)
              subst hAI
              have hk := (StrsAt.keep hst D.out) n hln
              have hkx := HXI.out (ids.getD n []) (by rw [List.getD_eq_getElem?_getD, List.getElem?_eq_getElem hln]; exact List.getElem_mem hln)
              clear hst
              generalize ids.getD n [] = kq at *
              have hd : (⟨kq.toArray⟩ : ByteArray).data.toList = kq := by simp
              have hkm : (⟨kq.toArray⟩ : ByteArray).size ≤ maxLen := by show kq.length ≤ maxLen; unfold maxLen; omega
              obtain ⟨⟨fv, ft⟩, hlk⟩ := look_fact G0.out.2.1 kq
              have hlk2 : lookE a0 kq = .agg (factC fv ft) := hlk
              have HHK := Lib.hid hk
              have HGt := Lib.hid (fun W (hb : Below wr.heap.size wr W) => (show Calls Tryz.prog 25 #[.pointer (some ⟨P0, 0, none⟩), .string ⟨kq.toArray⟩] W fun e W' => e = .returned (.tuple #[.agg (factC fv ft), .bool (hasE a0 kq)]) ∧ Below W.heap.size W W' from by have h := Get_calls P0 B0 a0 ⟨kq.toArray⟩ W (QD1.out.set.below hb) G0.out.2.1 hkm; rw [hd, hlk2] at h; exact h))
              obtain ⟨rv, rl, hR, hrl⟩ := QD1.out.ref
              have HRt := Lib.hid (fun W (hb : Below wr.heap.size wr W) => (show Calls Tryz.prog 26 #[.pointer (some ⟨Q0, 0, none⟩), .string ⟨kq.toArray⟩] W fun e W' => e = .returned (.tuple #[.agg (factC fv ft), .bool (hasE a0 kq)]) ∧ Below W.heap.size W W' from by have h := rGet_calls Q0 rv rl ⟨kq.toArray⟩ W (hR.below hb) (by rw [hrl]; exact G0.out.1) (by have := esR_le hrl G0.out; omega); rw [hd, hrl, hlk2] at h; exact h))
              have HHt := Lib.hid (fun W (hb : Below wr.heap.size wr W) => (show Calls Tryz.prog 27 #[.pointer (some ⟨P0, 0, none⟩), .string ⟨kq.toArray⟩] W fun e W' => e = .returned (.bool (hasE a0 kq)) ∧ Below W.heap.size W W' from by have h := Has_calls P0 B0 a0 ⟨kq.toArray⟩ W (QD1.out.set.below hb) G0.out.2.1 hkm; rw [hd] at h; exact h))
              clear hk hlk hlk2 hR hrl hd hkm hkx
              generalize hasE a0 kq = hbq at *
              go_upto_region 36 with (fail)
              refine reg36 _ rfl (HG := HGk.out) (k0 := k0) (k2 := k2) (HF := HF.out) (hQ := QD1.out) (n0 := n0) (n1 := n1) (hk := HHK.out) (HGt := HGt.out) rfl rfl rfl rfl _ ?_
              intro _ _ _ _ _ _ _ _ _ _ _ _ _ _ W36 hres
              obtain ⟨f1, rfl, rfl, hf1, hb1⟩ := hres
              (repeat (rewrite [putL_step]; dsimp only [set32, List.set_cons_zero, List.set_cons_succ])); rewrite [putL_end]
              have F1 := Lib.hid hf1; have B1 := Lib.hid hb1
              clear hf1 hb1
              have E1 := Lib.hid (((B1.out.cell (p := ⟨gI, oI + n, none⟩) (lt_of_cell HHK.out)).trans HHK.out))
              go_upto_region 37 with (fail)
              refine reg37 _ rfl (HG := HGk.out) (k0 := k0) (k2 := k2) (HF := HF.out) (hQ := QD1.out.below B1.out) (n0 := n0) (n1 := n1) (hk := E1.out) (HGt := fun W hb => HRt.out W (B1.out.trans (hb.mono B1.out.size))) rfl rfl rfl rfl _ ?_
              intro _ _ _ _ _ _ _ _ _ _ _ _ _ _ W37 hres
              obtain ⟨f2, rfl, rfl, hf2, hb2⟩ := hres
              (repeat (rewrite [putL_step]; dsimp only [set32, List.set_cons_zero, List.set_cons_succ])); rewrite [putL_end]
              have F2 := Lib.hid hf2; have B2 := Lib.hid (B1.out.trans (hb2.mono B1.out.size)); have F1 := Lib.hid ((hb2.block _ (Array.getElem?_eq_some_iff.1 F1.out).1).trans F1.out); have E2 := Lib.hid (((hb2.cell (p := ⟨gI, oI + n, none⟩) (lt_of_cell E1.out)).trans E1.out))
              clear hf2 hb2 E1
              go_upto_region 38 with (fail)
              refine reg38 _ rfl (HG := HGk.out) (k0 := k0) (k2 := k2) (HF := HF.out) (hQ := QD1.out.below B2.out) (n0 := n0) (n1 := n1) (hk := E2.out) (hf1 := F1.out) (hf2 := F2.out) (HHt := fun W hb => HHt.out W (B2.out.trans (hb.mono B2.out.size))) rfl rfl rfl rfl rfl rfl rfl rfl _ ?_
              intro _ _ _ _ _ _ _ _ _ _ _ _ _ _ _ _ _ _ _ _ _ W38 hres
              obtain ⟨rfl, hb3⟩ := hres
              (repeat (rewrite [putL_step]; dsimp only [set32, List.set_cons_zero, List.set_cons_succ])); rewrite [putL_end]
              have B3 := Lib.hid (B2.out.trans (hb3.mono B2.out.size))
              clear hb3
              go_wp2_with fail
              go_roundw
              case rel => exact ⟨n + 1, by omega, by go_num, Lib.hid (D.out.trans (B3.out.mono D.out.size))⟩
              case measure => simp [intOf]; omega
end Go.Proofs.YtnndnjnpkjpkpaaGreatDoor
