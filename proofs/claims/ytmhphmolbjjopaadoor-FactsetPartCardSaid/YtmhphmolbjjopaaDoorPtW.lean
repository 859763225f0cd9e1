/- The walk of FactsetPart. -/
import Derived.Test.YtmhphmolbjjopaaDoorSne
import Derived.Test.YtmhphmolbjjopaaDoorSme
import Derived.Test.YtmhphmolbjjopaaDoorPtp
import Derived.Test.YtmhphmolbjjopaaDoorLaidi
namespace Go.Proofs.YtmhphmolbjjopaaDoor
open Go.RowKit Go.Maps
theorem pickF_rng (c n : Int) (h : 1 ≤ n) : 0 ≤ pickF c n ∧ pickF c n < n := by
  unfold pickF
  split
  · exact ⟨Int.emod_nonneg _ (by omega), Int.emod_lt_of_pos _ (by omega)⟩
  · exact ⟨Int.emod_nonneg _ (by omega), Int.emod_lt_of_pos _ (by omega)⟩
theorem SetAt.rowS {w w' : World} {p b base : Nat} {es : List Ent} {v : Value} {l : List Bs} (h : SetAt w p b es) (hr : RowS w base v l) (hp : p < base) (hb : b < base) (hg : w.grownBy w' v.ownBlock) : SetAt w' p b es :=
  h.keep hg (fun e => by have := hr.lt _ e; omega) (fun e => by have := hr.lt _ e; omega)
theorem key_list (k : List UInt8) : (⟨k.toArray⟩ : ByteArray).data.toList = k := by simp
theorem rowK6 {w w' : World} {b : Nat} {o : Obj} (h : w.heap[b]? = some o) (hb : Below w.heap.size w w') : w'.heap[b]? = some o := (hb.block b (Array.getElem?_eq_some_iff.1 h).1).trans h
theorem rowL6 {w : World} {b : Nat} {o : Obj} (h : w.heap[b]? = some o) : b < w.heap.size := (Array.getElem?_eq_some_iff.1 h).1
theorem look_small {es : List Ent} (h : Good es) {k : List UInt8} (hh : hasE es k = true) {v : Nat → Int} {t : ByteArray} (hv : lookE es k = valF (v, t)) : t.size ≤ 65536 := by
  have hg := has_get hh
  obtain ⟨⟨u, s⟩, ho, he⟩ := h.2.1 _ (getE_mem hg)
  have h2 : valF (v, t) = valF (u, s) := by rw [← hv]; exact congrArg Prod.snd he
  have h3 : t = s := by
    have h4 : factC v t = factC u s := by injection h2
    have h5 := congrArg (fun c : Array Value => c[17]?) h4
    simpa using h5
  rw [h3]
  exact good_text ho
theorem getD_memS {l : List Bs} {k : Nat} (h : k < l.length) : l.getD k [] ∈ l := by
  rw [List.getD_eq_getElem?_getD, List.getElem?_eq_getElem h]; exact List.getElem_mem h
theorem back_strs (m l : List Bs) (k : Nat) (h : k < l.length) : m ++ (l.drop (k + 1)).reverse ++ [l.getD k []] = m ++ (l.drop k).reverse := by
  rw [List.drop_eq_getElem_cons h, List.reverse_cons, List.append_assoc, List.getD_eq_getElem?_getD, List.getElem?_eq_getElem h]; rfl
set_option maxRecDepth 100000 in
set_option maxHeartbeats 8000000 in
theorem part_walk (A : Option Addr) (l : List Fa) (cap : Nat) (which : Int) (more : ByteArray) (add : Bool) (w : World) (hK : Konst w) (_hc : l.length ≤ cap) (hl : l.length ≤ 9223372036854775807) (hA : FactsS w A l) (hx : ∀ f ∈ l, FaR f)
    (hw0 : -9223372036854775808 ≤ which) (hw1 : which ≤ 9223372036854775807) (hmz : more.size ≤ 281474976710656) (hmz2 : more.size ≤ maxLen) :
    Calls Tryd.prog 6 #[.slice A l.length cap, .int .i64 which, .string more, .bool add] w fun e W' => e = .returned (.bool true) ∧ Below w.heap.size w W' := by
  have HSA := Lib.hid (sane_calls w hK)
  have CX := Lib.hid (fun W (hb : Below w.heap.size w W) => cut_calls l A cap W (hA.keep hb) hl (fun f hf => (hx f hf).2))
  have HK := Lib.hid (fun W (hb : Below w.heap.size w W) => hK.keep hb)
  have HPK := Lib.hid (fun W => pick_calls which 33554432 W hw0 hw1 (by omega) (by omega))
  obtain ⟨r0, r1⟩ := pickF_rng which 33554432 (by omega)
  generalize pickF which 33554432 = r at *
  clear hK hA hx hl _hc hw0 hw1
  have lX := cutL_length l
  generalize cutL l = X at *
  go_enter Tryd.func6, Tryd.ntmps6
  go_wp2_with fail
  refine HSA.out.mono ?_
  rintro e W1 ⟨rfl, b1⟩
  have B := Lib.hid b1
  clear b1 HSA
  go_wp2_with fail
  refine (CX.out W1 B.out).mono ?_
  rintro e W2 ⟨vc, rfl, hrow, b3⟩
  obtain ⟨Ac, cc, rfl, hcc, hst⟩ := RowA.slice hrow
  replace B := Lib.hid (B.out.trans (b3.mono B.out.size))
  clear b3 hrow hcc
  go_wp2_with fail
  refine (of_calls X Ac cc W2 (HK.out _ B.out) hst (by omega)).mono ?_
  rintro e W3 ⟨ps, bs, rfl, hS, -, hbsl, b3⟩
  have hwbs : w.heap.size ≤ bs := Nat.le_trans B.out.size hbsl
  clear hbsl
  replace B := Lib.hid (B.out.trans (b3.mono B.out.size))
  clear b3 hst
  have hlen : (ofL X).length ≤ 25 := by
    have h1 := ofL_le X
    omega
  have hG := good_of X
  have HE := Lib.hid (rfl : ofL X = ofL X)
  have S := Lib.hid hS
  clear hS
  have HX := Lib.hid lX
  clear lX
  generalize hes : ofL X = es at S hlen hG
  have Hes := Lib.hid hes
  clear hes HE
  go_wp2_with fail
  refine (IDs_calls (some ⟨ps, 0, none⟩) es W3 (.inr ⟨ps, bs, rfl, S.out, hG⟩)).mono ?_
  rintro e W4 ⟨lv, rfl, hrow, b3⟩
  obtain ⟨AL, cl, rfl, hcl, hsl, -⟩ := RowS.addr hrow
  replace S := Lib.hid (S.out.below b3)
  replace B := Lib.hid (B.out.trans (b3.mono B.out.size))
  clear b3 hrow
  change HS W4 AL (idsE es) at hsl
  have hkl : (es.map (·.1)).length = (idsE es).length := rfl
  rw [hkl] at hcl ⊢
  have hkn : (idsE es).length ≤ 25 := by unfold idsE; rw [List.length_map]; exact hlen
  have HKL := Lib.hid (show ∀ k ∈ idsE es, hasE es k = true ∧ k.length = 32 from fun k hk => ⟨has_of_key hG.1 (List.Sublist.refl _) hk, keylen hG hk⟩)
  clear hkl
  generalize hK0 : idsE es = K at *
  have HK0 := Lib.hid hK0
  clear hK0
  go_wp2_with fail
  refine (HPK.out _).mono ?_
  rintro e W9' ⟨rfl, rfl⟩
  clear HPK
  have C := Lib.hid (Below.refl W4.heap.size W4)
  have R := Lib.hid (RowS.nil W4 W4.heap.size)
  go_upto_region 7 with (fail)
  go_loopw [12, 13] (fun sv iv wr => ∃ (i : Nat) (T : List Bs), i ≤ K.length ∧ iv = .int .i64 i ∧ Hid (T.Sublist (K.take i)) ∧ Hid (RowS wr W4.heap.size sv T) ∧ Hid (Below W4.heap.size W4 wr)) (fun _ iv _ => K.length - (intOf iv).toNat)
  case atStart => exact ⟨0, [], by omega, rfl, Lib.hid (List.nil_sublist _), R, C⟩
  case round =>
    clear R C
    obtain ⟨i, T, hi, rfl, HT, R, C⟩ := hrel
    have i0 : 0 ≤ (i : Int) := by omega
    by_cases hlt : i < K.length
    · have i1 : (i : Int) < (K.length : Int) := by omega
      have i25 : (i : Int) < 64 := by omega
      have hsub := sub_take HT.out hlt
      have Hs1 := Lib.hid hsub.1
      have Hs2 := Lib.hid hsub.2
      clear hsub
      rcases Hid.out hsl with hz | ⟨gl, ol, rfl, hst⟩
      · rw [hz] at hlt; exact absurd hlt (by simp)
      have c1 := (StrsAt.keep hst C.out) i hlt
      have hTl : T.length ≤ 25 := Nat.le_trans HT.out.length_le (by rw [List.length_take]; omega)
      generalize K.getD i [] = ki at *
      go_upto_region 10 with (fail)
      · clear Hs1
        have hlb : T.length + 1 ≤ 1000000 := by omega
        have hal : Below wr.heap.size wr (wr.alloc (.cells #[.string ⟨ki.toArray⟩] 9)) := (Below.refl _ wr).alloc (Nat.le_refl _) _
        have hs1 := Strs.oneB wr ⟨ki.toArray⟩
        have hbs := C.out.size
        obtain ⟨v1, W5, happ, hrow1, hgr1⟩ := append_rows W4.heap.size (wr.alloc (.cells #[.string ⟨ki.toArray⟩] 9)) (RowS.below R.out hal) hs1 (.inr ⟨_, rfl⟩) (Nat.le_trans hbs hal.size) (by exact hlb) 44
        go_wp2_with (at_builtin; refine wpList_append_run rfl _ _ _ rfl _ _ rfl rfl happ ?_)
        replace C := Lib.hid ((C.out.trans (hal.mono hbs)).grown hgr1 (Nat.le_trans hbs hal.size) (fun j e => R.out.lt j e))
        replace R := Lib.hid hrow1
        clear hal hs1 hbs happ hrow1 hgr1
        rw [key_list] at R
        go_roundw
        case rel => exact ⟨i + 1, T ++ [ki], by omega, by go_num, Hs2, R, C⟩
        case measure => simp [intOf]; omega
      · clear Hs2 c1
        refine ⟨?rel, ?measure⟩
        case rel => exact ⟨i + 1, T, by omega, by go_num, Hs1, R, C⟩
        case measure => simp [intOf]; omega
    · obtain rfl : i = K.length := by omega
      have i1 : (K.length : Int) ≤ (K.length : Int) := by omega
      clear hlt
      obtain ⟨WC, hWC⟩ : ∃ WC, WC = wr := ⟨_, rfl⟩
      subst hWC
      rw [List.take_length] at HT
      have hTl : T.length ≤ 25 := Nat.le_trans HT.out.length_le hkn
      obtain ⟨A5, c5, hv5, hc5, hs5, hlies5⟩ := RowS.lies R.out
      subst hv5
      replace S := Lib.hid (S.out.below C.out)
      replace B := Lib.hid (B.out.trans (Below.mono C.out B.out.size))
      clear hsl R C hcl
      have HTK := Lib.hid (show ∀ k ∈ T, hasE es k = true ∧ k.length = 32 from fun k hk => HKL.out k (HT.out.subset hk))
      have HTS := Lib.hid (show T.Sublist (idsE es) by rw [HK0.out]; exact HT.out)
      clear HT HKL HK0
      go_upto_region 11 with (fail)
      have hal : Below WC.heap.size WC (WC.alloc (.cells #[] 9)) := (Below.refl _ WC).alloc (Nat.le_refl _) _
      obtain ⟨v6, W6, happ, hrow1, hgr1⟩ := append_rows WC.heap.size (WC.alloc (.cells #[] 9)) (RowS.empty WC WC.heap.size (Nat.le_refl _)) (Hid.out (hs5.keep hal)) hlies5 hal.size (by simp only [List.length_nil]; omega) 44
      go_upto_region 12 with (at_builtin; refine wpList_append_run rfl _ _ _ rfl _ _ rfl rfl happ ?_)
      have D := Lib.hid (hal.grown hgr1 hal.size (fun j e => (RowS.empty WC WC.heap.size (Nat.le_refl _)).lt j e))
      have R := Lib.hid hrow1
      rw [List.nil_append] at R
      clear hal happ hrow1 hgr1 hlies5
      cases add with
      | false =>
        go_upto_region 15 with (fail)
        rw [← List.append_nil T] at R
        go_loopw [14, 15] (fun av iv wr => ∃ k : Nat, k ≤ T.length ∧ iv = .int .i64 ((k : Int) - 1) ∧ Hid (RowS wr WC.heap.size av (T ++ ([] : List Bs) ++ (T.drop k).reverse)) ∧ Hid (Below WC.heap.size WC wr)) (fun _ iv _ => (intOf iv + 1).toNat)
        case atStart => exact ⟨T.length, by omega, by go_num, by rw [List.drop_length, List.reverse_nil, List.append_nil]; exact R, D⟩
        case round =>
          clear R D
          obtain ⟨k, hk, rfl, R, D⟩ := hrel
          rcases Nat.eq_zero_or_pos k with hk0 | hk0
          rotate_left
          · obtain ⟨k, rfl⟩ : ∃ n, k = n + 1 := ⟨k - 1, by omega⟩
            have k0 : (0 : Int) ≤ (k : Int) := by omega
            have hkl : k < T.length := by omega
            have k1 : (k : Int) < (T.length : Int) := by omega
            rw [show (((k + 1 : Nat) : Int) - 1) = (k : Int) by omega]
            rcases Hid.out hs5 with hz | ⟨gl, ol, rfl, hst⟩
            · rw [hz] at hkl; exact absurd hkl (by simp)
            have hst2 : StrsAt WC gl ol T := hst
            have c1 := (StrsAt.keep hst2 D.out) k hkl
            have hbk := Lib.hid (back_strs (T ++ ([] : List Bs)) T k hkl)
            have hdl : (T.drop (k + 1)).length ≤ 25 := by rw [List.length_drop]; omega
            have hlb : (T ++ ([] : List Bs) ++ (T.drop (k + 1)).reverse).length + 1 ≤ 1000000 := by simp only [List.length_append, List.length_reverse, List.length_nil]; omega
            generalize T.getD k [] = ki at *
            clear hdl hst hst2
            generalize T ++ ([] : List Bs) ++ (T.drop (k + 1)).reverse = P at *
            have hal : Below wr.heap.size wr (wr.alloc (.cells #[.string ⟨ki.toArray⟩] 9)) := (Below.refl _ wr).alloc (Nat.le_refl _) _
            have hs1 := Strs.oneB wr ⟨ki.toArray⟩
            have hbs := D.out.size
            obtain ⟨v1, W7, happ, hrow1, hgr1⟩ := append_rows WC.heap.size (wr.alloc (.cells #[.string ⟨ki.toArray⟩] 9)) (RowS.below R.out hal) hs1 (.inr ⟨_, rfl⟩) (Nat.le_trans hbs hal.size) (by exact hlb) 44
            go_wp2_with (at_builtin; refine wpList_append_run rfl _ _ _ rfl _ _ rfl rfl happ ?_)
            replace D := Lib.hid ((D.out.trans (hal.mono hbs)).grown hgr1 (Nat.le_trans hbs hal.size) (fun j e => R.out.lt j e))
            replace R := Lib.hid hrow1
            clear hal hs1 hbs happ hrow1 hgr1
            rw [key_list, hbk.out] at R
            go_roundw
            case rel => exact ⟨k, by omega, by go_num, R, D⟩
            case measure => simp [intOf]
          · subst hk0
            have hneg : ((0 : Nat) : Int) - 1 = -1 := rfl
            rw [hneg]
            clear hneg
            rw [List.drop_zero] at R
            obtain ⟨A6, c6, hv6, hc6, hs6, -⟩ := RowS.lies R.out
            subst hv6
            replace S := Lib.hid (S.out.below D.out)
            replace B := Lib.hid (B.out.trans (Below.mono D.out B.out.size))
            have T5 : HS wr A5 T := hs5.keep D.out
            obtain ⟨WE, hWE⟩ : ∃ WE, WE = wr := ⟨_, rfl⟩
            subst hWE
            clear R D hs5 hk
            have hml : ∀ x ∈ (T ++ ([] : List Bs) ++ T.reverse), x.length ≤ 281474976710656 := by
              intro x hx
              simp only [List.mem_append, List.mem_reverse, List.not_mem_nil, or_false] at hx
              rcases hx with hx | hx <;> (rw [(HTK.out x hx).2]; decide)
            have hal2 : (T ++ ([] : List Bs) ++ T.reverse).length ≤ 1000000 := by simp only [List.length_append, List.length_reverse, List.length_nil]; omega
            have hmiss : missK es (T ++ ([] : List Bs) ++ T.reverse) = [] := miss_none (fun k hk => by
              simp only [List.mem_append, List.mem_reverse, List.not_mem_nil, or_false] at hk
              exact (HTK.out k (hk.elim id id)).1)
            have Hids := Lib.hid (part_ids hG.1 hmiss HTS.out (fun k => by simp))
            have Hpu := Lib.hid (part_uni hG hmiss)
            have Hget := Lib.hid (show ∀ k ∈ T, getE (partE es (T ++ ([] : List Bs) ++ T.reverse)) k = getE es k from fun k hk => by rw [partE_get hmiss, if_pos (by simp [hk])])
            have HGp := Lib.hid (good_part hG hmiss)
            generalize (T ++ ([] : List Bs) ++ T.reverse) = Ask at *
            go_wp2_with fail
            refine (Part_has ps bs es Ask A6 c6 _ S.out hG (Hid.out hs6) hal2 hc6 hml hmiss).mono ?_
            rintro e W8 ⟨pp, bp, rfl, hSp, hpp, hbp, b3⟩
            have hne1 := S.out.ltp
            have hne2 := S.out.ltb
            replace S := Lib.hid (S.out.below b3)
            replace T5 : HS _ A5 T := T5.keep b3
            replace hs6 : HS _ A6 Ask := hs6.keep b3
            replace B := Lib.hid (B.out.trans (b3.mono B.out.size))
            have Sp := Lib.hid hSp
            have nb1 : bs ≠ bp := by omega
            have nb2 : bs ≠ pp := by omega
            clear b3 hSp hpp hbp hne1 hne2
            go_wp2_with fail
            have hmis := Missing_calls (some ⟨ps, 0, none⟩) es Ask A6 c6 W8 (.inr ⟨ps, bs, rfl, S.out, hG⟩) (Hid.out hs6) hal2 hc6 hml
            rw [hmiss] at hmis
            refine (hmis).mono ?_
            rintro e W9 ⟨mv, rfl, hrow, hmv, b3⟩
            replace S := Lib.hid (S.out.below b3)
            replace T5 : HS _ A5 T := T5.keep b3
            replace Sp := Lib.hid (Sp.out.below b3)
            replace B := Lib.hid (B.out.trans (b3.mono B.out.size))
            clear b3 hmis hs6 hml hal2
            obtain rfl := hmv.2 rfl
            clear hrow hmv
            go_wp2_with fail
            refine (IDs_calls (some ⟨pp, 0, none⟩) (partE es Ask) _ (.inr ⟨pp, bp, rfl, Sp.out, HGp.out⟩)).mono ?_
            rintro e W10 ⟨lv, rfl, hrow, b3⟩
            replace S := Lib.hid (S.out.below b3)
            replace T5 : HS _ A5 T := T5.keep b3
            replace Sp := Lib.hid (Sp.out.below b3)
            replace B := Lib.hid (B.out.trans (b3.mono B.out.size))
            change RowS W10 _ lv (idsE (partE es Ask)) at hrow
            rw [Hids.out] at hrow
            obtain ⟨A8, c8, rfl, hc8, hs8⟩ := RowS.slice hrow
            clear b3 hrow
            go_wp2_with fail
            have hss := same_any T T A8 A5 c8 c5 _ hs8 (Hid.out T5) (by omega)
            rw [decide_eq_true rfl] at hss
            refine (hss).mono ?_
            rintro e W11 ⟨rfl, b3⟩
            replace S := Lib.hid (S.out.below b3)
            replace T5 : HS _ A5 T := T5.keep b3
            replace Sp := Lib.hid (Sp.out.below b3)
            replace B := Lib.hid (B.out.trans (b3.mono B.out.size))
            clear b3 hss hs8 hc8
            go_upto_region 29 with (fail)
            go_loopw [19] (fun iv wr => ∃ j : Nat, j ≤ T.length ∧ iv = .int .i64 j ∧ Hid (Below W11.heap.size W11 wr)) (fun iv _ => T.length - (intOf iv).toNat)
            case atStart => exact ⟨0, by omega, rfl, Lib.hid (Below.refl _ _)⟩
            case round =>
              obtain ⟨j, hj, rfl, F⟩ := hrel
              have j0 : 0 ≤ (j : Int) := by omega
              by_cases hlt : j < T.length
              · have j1 : (j : Int) < (T.length : Int) := by omega
                rcases Hid.out T5 with hz | ⟨gl, ol, rfl, hst⟩
                · rw [hz] at hlt; exact absurd hlt (by simp)
                have hst2 : StrsAt W11 gl ol T := hst
                have c1 := (StrsAt.keep hst2 F.out) j hlt
                have Hst := Lib.hid hst2
                clear hst hst2
                have hkm := getD_memS hlt
                obtain ⟨hkh, hkl⟩ := HTK.out _ hkm
                obtain ⟨⟨v, t⟩, hvt⟩ := look_fact hG.2.1 (T.getD j [])
                have htz : t.size ≤ 65536 := look_small hG hkh hvt
                have hd : (⟨(T.getD j []).toArray⟩ : ByteArray).data.toList = T.getD j [] := by simp
                have hmx : (⟨(T.getD j []).toArray⟩ : ByteArray).size ≤ maxLen := by show (T.getD j []).length ≤ maxLen; rw [hkl]; decide
                have hph : hasE (partE es Ask) (T.getD j []) = true := by unfold hasE at hkh ⊢; rw [Hget.out _ hkm]; exact hkh
                have hpv : lookE (partE es Ask) (T.getD j []) = valF (v, t) := by unfold lookE at hvt ⊢; rw [Hget.out _ hkm]; exact hvt
                have HGP := Lib.hid (fun W hS => Get_some pp bp (partE es Ask) ⟨(T.getD j []).toArray⟩ W v t hS HGp.out.2.1 hmx (by rw [hd]; exact hph) (by rw [hd]; exact hpv) (by omega))
                have HGS := Lib.hid (fun W hS => Get_some ps bs es ⟨(T.getD j []).toArray⟩ W v t hS hG.2.1 hmx (by rw [hd]; exact hkh) (by rw [hd]; exact hvt) (by omega))
                have HC2 := Lib.hid (show ∀ W, Below W11.heap.size W11 W → W.cell? ⟨gl, ol + j, none⟩ = some (.string ⟨(T.getD j []).toArray⟩) from fun W hb => (StrsAt.keep Hst.out hb) j hlt)
                clear hkm hkh hkl hvt hd hmx hph hpv htz Hst
                generalize (⟨(T.getD j []).toArray⟩ : ByteArray) = kb at *
                have hone := factC_one v t
                have hic := hiC v t
                go_wp2_with fail
                refine (HGP.out _ (Sp.out.below F.out)).mono ?_
                rintro e W12 ⟨rfl, b3⟩
                replace F := Lib.hid (F.out.trans (b3.mono F.out.size))
                clear b3 c1
                go_upto_region 32 with (refine wpList_store_row rfl 33 _ _ rfl W12.heap.size (factC v t) rfl rfl 33 (factC (fun _ => 0) ⟨#[]⟩) (heap_new W12 _) (hiC _ _) rfl hone ?_)
                obtain ⟨W13, hWD, f1, b3⟩ : ∃ WD, (W12.alloc (.cells (factC (fun _ => 0) ⟨#[]⟩) 33)).setRow W12.heap.size (factC v t) = WD ∧ WD.heap[W12.heap.size]? = some (.cells (factC v t) 33 (0, 0)) ∧ Below W12.heap.size W12 WD :=
                  ⟨_, rfl, setRow_heap _ _ _ _ _ _ (heap_new W12 _), below_setRow' ((Below.refl _ W12).alloc (Nat.le_refl _) _) _ _ (Nat.le_refl _)⟩
                rw [hWD]
                clear hWD
                replace F := Lib.hid (F.out.trans (b3.mono F.out.size))
                have F1 := Lib.hid f1
                clear f1 b3
                generalize W12.heap.size = f1 at *
                have c1 := HC2.out W13 F.out
                go_wp2_with fail
                refine (HGS.out _ (S.out.below F.out)).mono ?_
                rintro e W14 ⟨rfl, b3⟩
                replace F1 := Lib.hid (rowK6 F1.out b3)
                replace F := Lib.hid (F.out.trans (b3.mono F.out.size))
                clear b3 c1
                have hz14 := rowL6 F1.out
                go_upto_region 33 with (refine wpList_store_row rfl 33 _ _ rfl W14.heap.size (factC v t) rfl rfl 33 (factC (fun _ => 0) ⟨#[]⟩) (heap_new W14 _) (hiC _ _) rfl hone ?_)
                obtain ⟨W15, hWD, f2, b3⟩ : ∃ WD, (W14.alloc (.cells (factC (fun _ => 0) ⟨#[]⟩) 33)).setRow W14.heap.size (factC v t) = WD ∧ WD.heap[W14.heap.size]? = some (.cells (factC v t) 33 (0, 0)) ∧ Below W14.heap.size W14 WD :=
                  ⟨_, rfl, setRow_heap _ _ _ _ _ _ (heap_new W14 _), below_setRow' ((Below.refl _ W14).alloc (Nat.le_refl _) _) _ _ (Nat.le_refl _)⟩
                rw [hWD]
                clear hWD
                replace F1 := Lib.hid (rowK6 F1.out b3)
                replace F := Lib.hid (F.out.trans (b3.mono F.out.size))
                have F2 := Lib.hid f2
                clear f2 b3 hz14
                generalize W14.heap.size = f2 at *
                have hq : ∀ W, (binOp .neq 33 (.agg (factC v t)) (.agg (factC v t))).run Tryd.prog W = .ok (.bool false) W := fun W => by
                  have h := runNe (v, t) (v, t) W
                  rw [(eqB_val (v, t) (v, t)).2 rfl] at h
                  exact h
                generalize hfc : factC v t = cs at hq
                go_wp2_with (first | (refine wpList_load_fact rfl _ rfl f1 rfl v t F1.out ?_; rw [hfc]) | (refine wpList_load_fact rfl _ rfl f2 rfl v t F2.out ?_; rw [hfc]))
                go_roundw
                case rel => exact ⟨j + 1, by omega, by go_num, F⟩
                case measure => simp [intOf]; omega
              · obtain rfl : j = T.length := by omega
                have j1 : (T.length : Int) ≤ (T.length : Int) := by omega
                clear hlt hj
                replace S := Lib.hid (S.out.below F.out)
                replace Sp := Lib.hid (Sp.out.below F.out)
                replace B := Lib.hid (B.out.trans (Below.mono F.out B.out.size))
                clear F
                go_wp2_with fail
                have hu := Union_calls ps bs pp bp es (partE es Ask) wr S.out Sp.out hG HGp.out nb1 nb2
                rw [Hpu.out.1, Hpu.out.2] at hu
                refine (hu).mono ?_
                rintro e W16 ⟨rfl, hS3, hg3⟩
                replace B := Lib.hid (B.out.grown hg3 B.out.size (fun j e => by cases e; exact hwbs))
                replace S := Lib.hid hS3
                clear hS3 hg3 hu
                go_wp2_with fail
                refine (CX.out _ B.out).mono ?_
                rintro e W17 ⟨vc, rfl, hrow, b3⟩
                obtain ⟨Ad, cd, rfl, hcd, hst⟩ := RowA.slice hrow
                replace S := Lib.hid (S.out.below b3)
                replace B := Lib.hid (B.out.trans (b3.mono B.out.size))
                clear b3 hrow
                go_wp2_with fail
                refine (of_calls X Ad cd W17 (HK.out _ B.out) hst (by have := HX.out; omega)).mono ?_
                rintro e W18 ⟨pt, bt, rfl, hS2, -, -, b3⟩
                rw [Hes.out] at hS2
                replace S := Lib.hid (S.out.below b3)
                replace B := Lib.hid (B.out.trans (b3.mono B.out.size))
                clear b3 hst
                go_wp2_with fail
                refine (same_sets ps bs pt bt es es W18 (HK.out _ B.out) S.out hS2 hG hG).mono ?_
                rintro e W19 ⟨c9, rfl, hc9, b3⟩
                obtain rfl := hc9 rfl
                replace B := Lib.hid (B.out.trans (b3.mono B.out.size))
                go_wp2_with fail
                go_ret
                exact ⟨rfl, B.out⟩
      | true =>
        cases hmore : hasE es more.data.toList with
        | true =>
          go_upto_region 13 with (fail)
          have hlb : T.length + 1 ≤ 1000000 := by omega
          have hal : Below W6.heap.size W6 (W6.alloc (.cells #[.string more] 9)) := (Below.refl _ W6).alloc (Nat.le_refl _) _
          have hs1 := Strs.oneB W6 more
          have hbs := D.out.size
          obtain ⟨v1, W5, happ, hrow1, hgr1⟩ := append_rows WC.heap.size (W6.alloc (.cells #[.string more] 9)) (RowS.below R.out hal) hs1 (.inr ⟨_, rfl⟩) (Nat.le_trans hbs hal.size) hlb 44
          go_upto_region 15 with (at_builtin; refine wpList_append_run rfl _ _ _ rfl _ _ rfl rfl happ ?_)
          replace D := Lib.hid ((D.out.trans (hal.mono hbs)).grown hgr1 (Nat.le_trans hbs hal.size) (fun j e => R.out.lt j e))
          replace R := Lib.hid hrow1
          clear hal hs1 hbs happ hrow1 hgr1 hlb
          go_loopw [14, 15] (fun av iv wr => ∃ k : Nat, k ≤ T.length ∧ iv = .int .i64 ((k : Int) - 1) ∧ Hid (RowS wr WC.heap.size av (T ++ [more.data.toList] ++ (T.drop k).reverse)) ∧ Hid (Below WC.heap.size WC wr)) (fun _ iv _ => (intOf iv + 1).toNat)
          case atStart => exact ⟨T.length, by omega, by go_num, by rw [List.drop_length, List.reverse_nil, List.append_nil]; exact R, D⟩
          case round =>
            clear R D
            obtain ⟨k, hk, rfl, R, D⟩ := hrel
            rcases Nat.eq_zero_or_pos k with hk0 | hk0
            rotate_left
            · obtain ⟨k, rfl⟩ : ∃ n, k = n + 1 := ⟨k - 1, by omega⟩
              have k0 : (0 : Int) ≤ (k : Int) := by omega
              have hkl : k < T.length := by omega
              have k1 : (k : Int) < (T.length : Int) := by omega
              rw [show (((k + 1 : Nat) : Int) - 1) = (k : Int) by omega]
              rcases Hid.out hs5 with hz | ⟨gl, ol, rfl, hst⟩
              · rw [hz] at hkl; exact absurd hkl (by simp)
              have hst2 : StrsAt WC gl ol T := hst
              have c1 := (StrsAt.keep hst2 D.out) k hkl
              have hbk := Lib.hid (back_strs (T ++ [more.data.toList]) T k hkl)
              have hdl : (T.drop (k + 1)).length ≤ 25 := by rw [List.length_drop]; omega
              have hlb : (T ++ [more.data.toList] ++ (T.drop (k + 1)).reverse).length + 1 ≤ 1000000 := by simp only [List.length_append, List.length_reverse, List.length_cons, List.length_nil]; omega
              generalize T.getD k [] = ki at *
              clear hdl hst hst2
              generalize T ++ [more.data.toList] ++ (T.drop (k + 1)).reverse = P at *
              have hal : Below wr.heap.size wr (wr.alloc (.cells #[.string ⟨ki.toArray⟩] 9)) := (Below.refl _ wr).alloc (Nat.le_refl _) _
              have hs1 := Strs.oneB wr ⟨ki.toArray⟩
              have hbs := D.out.size
              obtain ⟨v1, W7, happ, hrow1, hgr1⟩ := append_rows WC.heap.size (wr.alloc (.cells #[.string ⟨ki.toArray⟩] 9)) (RowS.below R.out hal) hs1 (.inr ⟨_, rfl⟩) (Nat.le_trans hbs hal.size) (by exact hlb) 44
              go_wp2_with (at_builtin; refine wpList_append_run rfl _ _ _ rfl _ _ rfl rfl happ ?_)
              replace D := Lib.hid ((D.out.trans (hal.mono hbs)).grown hgr1 (Nat.le_trans hbs hal.size) (fun j e => R.out.lt j e))
              replace R := Lib.hid hrow1
              clear hal hs1 hbs happ hrow1 hgr1
              rw [key_list, hbk.out] at R
              go_roundw
              case rel => exact ⟨k, by omega, by go_num, R, D⟩
              case measure => simp [intOf]
            · subst hk0
              have hneg : ((0 : Nat) : Int) - 1 = -1 := rfl
              rw [hneg]
              clear hneg
              rw [List.drop_zero] at R
              obtain ⟨A6, c6, hv6, hc6, hs6, -⟩ := RowS.lies R.out
              subst hv6
              replace S := Lib.hid (S.out.below D.out)
              replace B := Lib.hid (B.out.trans (Below.mono D.out B.out.size))
              have T5 : HS wr A5 T := hs5.keep D.out
              obtain ⟨WE, hWE⟩ : ∃ WE, WE = wr := ⟨_, rfl⟩
              subst hWE
              clear R D hs5 hk
              have hml : ∀ x ∈ (T ++ [more.data.toList] ++ T.reverse), x.length ≤ 281474976710656 := by
                intro x hx
                simp only [List.mem_append, List.mem_reverse, List.mem_singleton] at hx
                rcases hx with (hx | rfl) | hx
                · rw [(HTK.out x hx).2]; decide
                · exact hmz
                · rw [(HTK.out x hx).2]; decide
              have hal2 : (T ++ [more.data.toList] ++ T.reverse).length ≤ 1000000 := by simp only [List.length_append, List.length_reverse, List.length_cons, List.length_nil]; omega
              have hmiss : missK es (T ++ [more.data.toList] ++ T.reverse) = [] := miss_none (fun k hk => by
                simp only [List.mem_append, List.mem_reverse, List.mem_singleton] at hk
                rcases hk with (hk | rfl) | hk
                · exact (HTK.out k hk).1
                · exact hmore
                · exact (HTK.out k hk).1)
              have hlenp := part_len hG.1 hmiss HTS.out (fun k hk => by simp [hk])
              have Hpu := Lib.hid (part_uni hG hmiss)
              have Hget := Lib.hid (show ∀ k ∈ T, getE (partE es (T ++ [more.data.toList] ++ T.reverse)) k = getE es k from fun k hk => by rw [partE_get hmiss, if_pos (by simp [hk])])
              have HGp := Lib.hid (good_part hG hmiss)
              generalize (T ++ [more.data.toList] ++ T.reverse) = Ask at *
              go_wp2_with fail
              refine (Part_has ps bs es Ask A6 c6 _ S.out hG (Hid.out hs6) hal2 hc6 hml hmiss).mono ?_
              rintro e W8 ⟨pp, bp, rfl, hSp, hpp, hbp, b3⟩
              have hne1 := S.out.ltp
              have hne2 := S.out.ltb
              replace S := Lib.hid (S.out.below b3)
              replace T5 : HS _ A5 T := T5.keep b3
              replace hs6 : HS _ A6 Ask := hs6.keep b3
              replace B := Lib.hid (B.out.trans (b3.mono B.out.size))
              have Sp := Lib.hid hSp
              have nb1 : bs ≠ bp := by omega
              have nb2 : bs ≠ pp := by omega
              clear b3 hSp hpp hbp hne1 hne2
              go_wp2_with fail
              have hmis := Missing_calls (some ⟨ps, 0, none⟩) es Ask A6 c6 W8 (.inr ⟨ps, bs, rfl, S.out, hG⟩) (Hid.out hs6) hal2 hc6 hml
              rw [hmiss] at hmis
              refine (hmis).mono ?_
              rintro e W9 ⟨mv, rfl, hrow, hmv, b3⟩
              replace S := Lib.hid (S.out.below b3)
              replace T5 : HS _ A5 T := T5.keep b3
              replace Sp := Lib.hid (Sp.out.below b3)
              replace B := Lib.hid (B.out.trans (b3.mono B.out.size))
              clear b3 hmis hs6 hml hal2
              obtain rfl := hmv.2 rfl
              clear hrow hmv
              go_wp2_with fail
              have hh := Has_calls ps bs es more _ S.out hG.2.1 hmz2
              rw [hmore] at hh
              refine (hh).mono ?_
              rintro e W10 ⟨rfl, b3⟩
              replace S := Lib.hid (S.out.below b3)
              replace T5 : HS _ A5 T := T5.keep b3
              replace Sp := Lib.hid (Sp.out.below b3)
              replace B := Lib.hid (B.out.trans (b3.mono B.out.size))
              clear b3 hh
              have hln := fun W hS => Len_calls pp bp (partE es Ask) W hS
              have hlp : (T.length : Int) ≤ ((partE es Ask).length : Int) := by omega
              generalize (partE es Ask).length = np at *
              go_wp2_with fail
              refine (hln _ Sp.out).mono ?_
              rintro e W9' ⟨rfl, rfl⟩
              go_wp2_with fail
              go_ret
              exact ⟨rfl, B.out⟩
        | false =>
          go_upto_region 13 with (fail)
          have hlb : T.length + 1 ≤ 1000000 := by omega
          have hal : Below W6.heap.size W6 (W6.alloc (.cells #[.string more] 9)) := (Below.refl _ W6).alloc (Nat.le_refl _) _
          have hs1 := Strs.oneB W6 more
          have hbs := D.out.size
          obtain ⟨v1, W5, happ, hrow1, hgr1⟩ := append_rows WC.heap.size (W6.alloc (.cells #[.string more] 9)) (RowS.below R.out hal) hs1 (.inr ⟨_, rfl⟩) (Nat.le_trans hbs hal.size) hlb 44
          go_upto_region 15 with (at_builtin; refine wpList_append_run rfl _ _ _ rfl _ _ rfl rfl happ ?_)
          replace D := Lib.hid ((D.out.trans (hal.mono hbs)).grown hgr1 (Nat.le_trans hbs hal.size) (fun j e => R.out.lt j e))
          replace R := Lib.hid hrow1
          clear hal hs1 hbs happ hrow1 hgr1 hlb
          go_loopw [14, 15] (fun av iv wr => ∃ k : Nat, k ≤ T.length ∧ iv = .int .i64 ((k : Int) - 1) ∧ Hid (RowS wr WC.heap.size av (T ++ [more.data.toList] ++ (T.drop k).reverse)) ∧ Hid (Below WC.heap.size WC wr)) (fun _ iv _ => (intOf iv + 1).toNat)
          case atStart => exact ⟨T.length, by omega, by go_num, by rw [List.drop_length, List.reverse_nil, List.append_nil]; exact R, D⟩
          case round =>
            clear R D
            obtain ⟨k, hk, rfl, R, D⟩ := hrel
            rcases Nat.eq_zero_or_pos k with hk0 | hk0
            rotate_left
            · obtain ⟨k, rfl⟩ : ∃ n, k = n + 1 := ⟨k - 1, by omega⟩
              have k0 : (0 : Int) ≤ (k : Int) := by omega
              have hkl : k < T.length := by omega
              have k1 : (k : Int) < (T.length : Int) := by omega
              rw [show (((k + 1 : Nat) : Int) - 1) = (k : Int) by omega]
              rcases Hid.out hs5 with hz | ⟨gl, ol, rfl, hst⟩
              · rw [hz] at hkl; exact absurd hkl (by simp)
              have hst2 : StrsAt WC gl ol T := hst
              have c1 := (StrsAt.keep hst2 D.out) k hkl
              have hbk := Lib.hid (back_strs (T ++ [more.data.toList]) T k hkl)
              have hdl : (T.drop (k + 1)).length ≤ 25 := by rw [List.length_drop]; omega
              have hlb : (T ++ [more.data.toList] ++ (T.drop (k + 1)).reverse).length + 1 ≤ 1000000 := by simp only [List.length_append, List.length_reverse, List.length_cons, List.length_nil]; omega
              generalize T.getD k [] = ki at *
              clear hdl hst hst2
              generalize T ++ [more.data.toList] ++ (T.drop (k + 1)).reverse = P at *
              have hal : Below wr.heap.size wr (wr.alloc (.cells #[.string ⟨ki.toArray⟩] 9)) := (Below.refl _ wr).alloc (Nat.le_refl _) _
              have hs1 := Strs.oneB wr ⟨ki.toArray⟩
              have hbs := D.out.size
              obtain ⟨v1, W7, happ, hrow1, hgr1⟩ := append_rows WC.heap.size (wr.alloc (.cells #[.string ⟨ki.toArray⟩] 9)) (RowS.below R.out hal) hs1 (.inr ⟨_, rfl⟩) (Nat.le_trans hbs hal.size) (by exact hlb) 44
              go_wp2_with (at_builtin; refine wpList_append_run rfl _ _ _ rfl _ _ rfl rfl happ ?_)
              replace D := Lib.hid ((D.out.trans (hal.mono hbs)).grown hgr1 (Nat.le_trans hbs hal.size) (fun j e => R.out.lt j e))
              replace R := Lib.hid hrow1
              clear hal hs1 hbs happ hrow1 hgr1
              rw [key_list, hbk.out] at R
              go_roundw
              case rel => exact ⟨k, by omega, by go_num, R, D⟩
              case measure => simp [intOf]
            · subst hk0
              have hneg : ((0 : Nat) : Int) - 1 = -1 := rfl
              rw [hneg]
              clear hneg
              rw [List.drop_zero] at R
              obtain ⟨A6, c6, hv6, hc6, hs6, -⟩ := RowS.lies R.out
              subst hv6
              replace S := Lib.hid (S.out.below D.out)
              replace B := Lib.hid (B.out.trans (Below.mono D.out B.out.size))
              have T5 : HS wr A5 T := hs5.keep D.out
              obtain ⟨WE, hWE⟩ : ∃ WE, WE = wr := ⟨_, rfl⟩
              subst hWE
              clear R D hs5 hk
              have hml : ∀ x ∈ (T ++ [more.data.toList] ++ T.reverse), x.length ≤ 281474976710656 := by
                intro x hx
                simp only [List.mem_append, List.mem_reverse, List.mem_singleton] at hx
                rcases hx with (hx | rfl) | hx
                · rw [(HTK.out x hx).2]; decide
                · exact hmz
                · rw [(HTK.out x hx).2]; decide
              have hal2 : (T ++ [more.data.toList] ++ T.reverse).length ≤ 1000000 := by simp only [List.length_append, List.length_reverse, List.length_cons, List.length_nil]; omega
              have hmiss : missK es (T ++ [more.data.toList] ++ T.reverse) = [more.data.toList] := miss_more (by simp) hmore (fun k hk hne => by
                simp only [List.mem_append, List.mem_reverse, List.mem_singleton] at hk
                rcases hk with (hk | rfl) | hk
                · exact (HTK.out k hk).1
                · exact absurd rfl hne
                · exact (HTK.out k hk).1)
              generalize (T ++ [more.data.toList] ++ T.reverse) = Ask at *
              go_wp2_with fail
              refine (Part_miss ps bs es Ask A6 c6 _ S.out hG (Hid.out hs6) hal2 hc6 hml (by rw [hmiss]; simp)).mono ?_
              rintro e W8 ⟨rfl, b3⟩
              replace S := Lib.hid (S.out.below b3)
              replace T5 : HS _ A5 T := T5.keep b3
              replace hs6 : HS _ A6 Ask := hs6.keep b3
              replace B := Lib.hid (B.out.trans (b3.mono B.out.size))
              clear b3
              go_wp2_with fail
              have hmis := Missing_calls (some ⟨ps, 0, none⟩) es Ask A6 c6 W8 (.inr ⟨ps, bs, rfl, S.out, hG⟩) (Hid.out hs6) hal2 hc6 hml
              rw [hmiss] at hmis
              refine (hmis).mono ?_
              rintro e W9 ⟨mv, rfl, hrow, hmv, b3⟩
              replace S := Lib.hid (S.out.below b3)
              replace T5 : HS _ A5 T := T5.keep b3
              replace B := Lib.hid (B.out.trans (b3.mono B.out.size))
              clear b3 hmis hs6 hml hal2
              obtain ⟨A7, c7, rfl, hc7, hs7⟩ := RowS.slice hrow
              have hs8 : HS W9 A7 [more.data.toList] := Lib.hid hs7
              clear hrow hmv hs7
              go_wp2_with fail
              have hh := Has_calls ps bs es more _ S.out hG.2.1 hmz2
              rw [hmore] at hh
              refine (hh).mono ?_
              rintro e W10 ⟨rfl, b3⟩
              replace S := Lib.hid (S.out.below b3)
              replace T5 : HS _ A5 T := T5.keep b3
              replace hs8 : HS _ A7 [more.data.toList] := hs8.keep b3
              replace B := Lib.hid (B.out.trans (b3.mono B.out.size))
              clear b3 hh
              rcases Hid.out hs8 with hz | ⟨g7, o7, rfl, hst7⟩
              · cases hz
              have c7 : W10.cell? ⟨g7, o7, none⟩ = some (.string more) := by have h := hst7 0 (by simp); simpa [mk_eta] using h
              have heq : (more.toList == more.toList) = true := by simp
              go_wp2_with fail
              go_ret
              exact ⟨rfl, B.out⟩
end Go.Proofs.YtmhphmolbjjopaaDoor
