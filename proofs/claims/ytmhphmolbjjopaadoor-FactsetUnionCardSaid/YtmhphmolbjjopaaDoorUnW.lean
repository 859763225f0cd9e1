/- The walk of FactsetUnion. -/
import Derived.Test.YtmhphmolbjjopaaDoorSne
import Derived.Test.YtmhphmolbjjopaaDoorSme
import Derived.Test.YtmhphmolbjjopaaDoorTwn
import Derived.Test.YtmhphmolbjjopaaDoorApf
import Derived.Test.YtmhphmolbjjopaaDoorLaidi
namespace Go.Proofs.YtmhphmolbjjopaaDoor
open Go.RowKit Go.Maps
theorem SetAt.row {w w' : World} {p b base : Nat} {es : List Ent} {v : Value} {l : List Fa} (h : SetAt w p b es) (hr : RowA w base v l) (hp : p < base) (hb : b < base) (hg : w.grownBy w' v.ownBlock) : SetAt w' p b es :=
  h.keep hg (fun e => by have := hr.lt _ e; omega) (fun e => by have := hr.lt _ e; omega)
set_option maxRecDepth 100000 in
set_option maxHeartbeats 8000000 in
theorem union_walk (A : Option Addr) (l : List Fa) (cap : Nat) (A' : Option Addr) (l' : List Fa) (cap' : Nat) (A'' : Option Addr) (l'' : List Fa) (cap'' : Nat) (w : World) (hK : Konst w) (_hc : l.length ≤ cap) (hl : l.length ≤ 9223372036854775807) (hA : FactsS w A l) (hx : ∀ f ∈ l, FaR f)
    (_hc' : l'.length ≤ cap') (hl' : l'.length ≤ 9223372036854775807) (hA' : FactsS w A' l') (hx' : ∀ f ∈ l', FaR f) (_hc'' : l''.length ≤ cap'') (hl'' : l''.length ≤ 9223372036854775807) (hA'' : FactsS w A'' l'') (hx'' : ∀ f ∈ l'', FaR f) :
    Calls Tryd.prog 4 #[.slice A l.length cap, .slice A' l'.length cap', .slice A'' l''.length cap''] w fun e W' => e = .returned (.bool true) ∧ Below w.heap.size w W' := by
  have HSA := Lib.hid (sane_calls w hK)
  have CX := Lib.hid (fun W (hb : Below w.heap.size w W) => cut_calls l A cap W (hA.keep hb) hl (fun f hf => (hx f hf).2))
  have CY := Lib.hid (fun W (hb : Below w.heap.size w W) => cut_calls l' A' cap' W (hA'.keep hb) hl' (fun f hf => (hx' f hf).2))
  have CZ := Lib.hid (fun W (hb : Below w.heap.size w W) => cut_calls l'' A'' cap'' W (hA''.keep hb) hl'' (fun f hf => (hx'' f hf).2))
  have HK := Lib.hid (fun W (hb : Below w.heap.size w W) => hK.keep hb)
  clear hK hA hA' hA'' hx hx' hx'' hl hl' hl'' _hc _hc' _hc''
  have lX := cutL_length l
  have lY := cutL_length l'
  have lZ := cutL_length l''
  generalize cutL l = X at *
  generalize cutL l' = Y at *
  generalize cutL l'' = Z at *
  go_enter Tryd.func4, Tryd.ntmps4
  go_wp2_with fail
  refine HSA.out.mono ?_
  rintro e W1 ⟨rfl, b1⟩
  have B := Lib.hid b1
  clear b1 HSA
  have hw1 := B.out.size
  go_wp2_with fail
  refine (CX.out W1 B.out).mono ?_
  rintro e W2 ⟨vc, rfl, hrow, b3⟩
  obtain ⟨Ac, cc, rfl, hcc, hst⟩ := RowA.slice hrow
  have hz := b3.size
  replace B := Lib.hid (B.out.trans (b3.mono B.out.size))
  clear b3 hrow hcc
  go_wp2_with fail
  refine (of_calls X Ac cc W2 (HK.out _ B.out) hst (by omega)).mono ?_
  rintro e W3 ⟨pa, ba, rfl, hS, loa, loba, b3⟩
  have hia := hS.ltp
  have hiba := hS.ltb
  have hza := b3.size
  replace B := Lib.hid (B.out.trans (b3.mono B.out.size))
  have Sa := Lib.hid hS
  clear hS b3 hst
  have qa : W1.heap.size ≤ pa ∧ W1.heap.size ≤ ba ∧ pa < W3.heap.size ∧ ba < W3.heap.size := ⟨by omega, by omega, hia, hiba⟩
  have ta : W1.heap.size ≤ W3.heap.size := by omega
  clear loa loba hia hiba hz hza
  go_wp2_with fail
  refine (CY.out W3 B.out).mono ?_
  rintro e W4 ⟨vc, rfl, hrow, b3⟩
  obtain ⟨Ac, cc, rfl, hcc, hst⟩ := RowA.slice hrow
  have hz := b3.size
  replace Sa := Lib.hid (Sa.out.below b3)
  replace B := Lib.hid (B.out.trans (b3.mono B.out.size))
  clear b3 hrow hcc
  go_wp2_with fail
  refine (of_calls Y Ac cc W4 (HK.out _ B.out) hst (by omega)).mono ?_
  rintro e W5 ⟨pb, bb, rfl, hS, lob, lobb, b3⟩
  have hib := hS.ltp
  have hibb := hS.ltb
  have hzb := b3.size
  replace Sa := Lib.hid (Sa.out.below b3)
  replace B := Lib.hid (B.out.trans (b3.mono B.out.size))
  have Sb := Lib.hid hS
  clear hS b3 hst
  have qb : W3.heap.size ≤ pb ∧ W3.heap.size ≤ bb ∧ pb < W5.heap.size ∧ bb < W5.heap.size := ⟨by omega, by omega, hib, hibb⟩
  have tb : W3.heap.size ≤ W5.heap.size := by omega
  clear lob lobb hib hibb hz hzb
  go_wp2_with fail
  refine (CZ.out W5 B.out).mono ?_
  rintro e W6 ⟨vc, rfl, hrow, b3⟩
  obtain ⟨Ac, cc, rfl, hcc, hst⟩ := RowA.slice hrow
  have hz := b3.size
  replace Sa := Lib.hid (Sa.out.below b3)
  replace Sb := Lib.hid (Sb.out.below b3)
  replace B := Lib.hid (B.out.trans (b3.mono B.out.size))
  clear b3 hrow hcc
  go_wp2_with fail
  refine (of_calls Z Ac cc W6 (HK.out _ B.out) hst (by omega)).mono ?_
  rintro e W7 ⟨pc, bc, rfl, hS, loc, lobc, b3⟩
  have hic := hS.ltp
  have hibc := hS.ltb
  have hzc := b3.size
  replace Sa := Lib.hid (Sa.out.below b3)
  replace Sb := Lib.hid (Sb.out.below b3)
  replace B := Lib.hid (B.out.trans (b3.mono B.out.size))
  have Sc := Lib.hid hS
  clear hS b3 hst
  have qc : W5.heap.size ≤ pc ∧ W5.heap.size ≤ bc ∧ pc < W7.heap.size ∧ bc < W7.heap.size := ⟨by omega, by omega, hic, hibc⟩
  have tc : W5.heap.size ≤ W7.heap.size := by omega
  clear loc lobc hic hibc hz hzc
  go_wp2_with fail
  refine (CX.out W7 B.out).mono ?_
  rintro e W8 ⟨vc, rfl, hrow, b3⟩
  obtain ⟨Ac, cc, rfl, hcc, hst⟩ := RowA.slice hrow
  have hz := b3.size
  replace Sa := Lib.hid (Sa.out.below b3)
  replace Sb := Lib.hid (Sb.out.below b3)
  replace Sc := Lib.hid (Sc.out.below b3)
  replace B := Lib.hid (B.out.trans (b3.mono B.out.size))
  clear b3 hrow hcc
  go_wp2_with fail
  refine (of_calls X Ac cc W8 (HK.out _ B.out) hst (by omega)).mono ?_
  rintro e W9 ⟨pu, bu, rfl, hS, lou, lobu, b3⟩
  have hiu := hS.ltp
  have hibu := hS.ltb
  have hzu := b3.size
  replace Sa := Lib.hid (Sa.out.below b3)
  replace Sb := Lib.hid (Sb.out.below b3)
  replace Sc := Lib.hid (Sc.out.below b3)
  replace B := Lib.hid (B.out.trans (b3.mono B.out.size))
  have Su := Lib.hid hS
  clear hS b3 hst
  have qu : W7.heap.size ≤ pu ∧ W7.heap.size ≤ bu ∧ pu < W9.heap.size ∧ bu < W9.heap.size := ⟨by omega, by omega, hiu, hibu⟩
  have tu : W7.heap.size ≤ W9.heap.size := by omega
  clear lou lobu hiu hibu hz hzu
  go_wp2_with fail
  refine (CZ.out W9 B.out).mono ?_
  rintro e W10 ⟨vc, rfl, hrow, b3⟩
  obtain ⟨Ac, cc, rfl, hcc, hst⟩ := RowA.slice hrow
  have hz := b3.size
  replace Sa := Lib.hid (Sa.out.below b3)
  replace Sb := Lib.hid (Sb.out.below b3)
  replace Sc := Lib.hid (Sc.out.below b3)
  replace Su := Lib.hid (Su.out.below b3)
  replace B := Lib.hid (B.out.trans (b3.mono B.out.size))
  clear b3 hrow hcc
  go_wp2_with fail
  refine (of_calls Z Ac cc W10 (HK.out _ B.out) hst (by omega)).mono ?_
  rintro e W11 ⟨pv, bv, rfl, hS, lov, lobv, b3⟩
  have hiv := hS.ltp
  have hibv := hS.ltb
  have hzv := b3.size
  replace Sa := Lib.hid (Sa.out.below b3)
  replace Sb := Lib.hid (Sb.out.below b3)
  replace Sc := Lib.hid (Sc.out.below b3)
  replace Su := Lib.hid (Su.out.below b3)
  replace B := Lib.hid (B.out.trans (b3.mono B.out.size))
  have Sv := Lib.hid hS
  clear hS b3 hst
  have qv : W9.heap.size ≤ pv ∧ W9.heap.size ≤ bv ∧ pv < W11.heap.size ∧ bv < W11.heap.size := ⟨by omega, by omega, hiv, hibv⟩
  have tv : W9.heap.size ≤ W11.heap.size := by omega
  clear lov lobv hiv hibv hz hzv
  have nua : bu ≠ pa ∧ bu ≠ ba := ⟨by omega, by omega⟩
  have nub : bu ≠ pb ∧ bu ≠ bb := ⟨by omega, by omega⟩
  have nuc : bu ≠ pc ∧ bu ≠ bc := ⟨by omega, by omega⟩
  have nuv : bu ≠ pv ∧ bu ≠ bv := ⟨by omega, by omega⟩
  have nva : bv ≠ pa ∧ bv ≠ ba := ⟨by omega, by omega⟩
  have nvb : bv ≠ pb ∧ bv ≠ bb := ⟨by omega, by omega⟩
  have nvc : bv ≠ pc ∧ bv ≠ bc := ⟨by omega, by omega⟩
  have nvu : bv ≠ pu ∧ bv ≠ bu := ⟨by omega, by omega⟩
  have hwu : w.heap.size ≤ bu := by omega
  have hwv : w.heap.size ≤ bv := by omega
  clear qa qb qc qu qv ta tb tc tu tv hw1
  go_wp2_with fail
  have hu := Union_calls pu bu pb bb (ofL (X)) (ofL Y) W11 Su.out Sb.out (good_of _) (good_of _) nub.2 nub.1
  obtain ⟨ue, us⟩ := uni_fits (X) Y (by (try simp only [List.length_append]); omega)
  rw [ue, us] at hu
  clear ue us
  refine hu.mono ?_
  rintro e W12 ⟨rfl, hS3, hg3⟩
  replace Sa := Lib.hid (Sa.out.keep hg3 (fun e => nua.1 (Option.some.inj e)) (fun e => nua.2 (Option.some.inj e)))
  replace Sb := Lib.hid (Sb.out.keep hg3 (fun e => nub.1 (Option.some.inj e)) (fun e => nub.2 (Option.some.inj e)))
  replace Sc := Lib.hid (Sc.out.keep hg3 (fun e => nuc.1 (Option.some.inj e)) (fun e => nuc.2 (Option.some.inj e)))
  replace Sv := Lib.hid (Sv.out.keep hg3 (fun e => nuv.1 (Option.some.inj e)) (fun e => nuv.2 (Option.some.inj e)))
  replace Su := Lib.hid hS3
  replace B := Lib.hid (B.out.grown hg3 B.out.size (fun j e => by cases e; exact hwu))
  clear hS3 hg3 hu
  go_wp2_with fail
  have hu := Union_calls pu bu pc bc (ofL (X ++ Y)) (ofL Z) W12 Su.out Sc.out (good_of _) (good_of _) nuc.2 nuc.1
  obtain ⟨ue, us⟩ := uni_fits (X ++ Y) Z (by (try simp only [List.length_append]); omega)
  rw [ue, us] at hu
  clear ue us
  refine hu.mono ?_
  rintro e W13 ⟨rfl, hS3, hg3⟩
  replace Sa := Lib.hid (Sa.out.keep hg3 (fun e => nua.1 (Option.some.inj e)) (fun e => nua.2 (Option.some.inj e)))
  replace Sb := Lib.hid (Sb.out.keep hg3 (fun e => nub.1 (Option.some.inj e)) (fun e => nub.2 (Option.some.inj e)))
  replace Sc := Lib.hid (Sc.out.keep hg3 (fun e => nuc.1 (Option.some.inj e)) (fun e => nuc.2 (Option.some.inj e)))
  replace Sv := Lib.hid (Sv.out.keep hg3 (fun e => nuv.1 (Option.some.inj e)) (fun e => nuv.2 (Option.some.inj e)))
  replace Su := Lib.hid hS3
  replace B := Lib.hid (B.out.grown hg3 B.out.size (fun j e => by cases e; exact hwu))
  clear hS3 hg3 hu
  go_wp2_with fail
  have hu := Union_calls pv bv pb bb (ofL (Z)) (ofL Y) W13 Sv.out Sb.out (good_of _) (good_of _) nvb.2 nvb.1
  obtain ⟨ue, us⟩ := uni_fits (Z) Y (by (try simp only [List.length_append]); omega)
  rw [ue, us] at hu
  clear ue us
  refine hu.mono ?_
  rintro e W14 ⟨rfl, hS3, hg3⟩
  replace Sa := Lib.hid (Sa.out.keep hg3 (fun e => nva.1 (Option.some.inj e)) (fun e => nva.2 (Option.some.inj e)))
  replace Sb := Lib.hid (Sb.out.keep hg3 (fun e => nvb.1 (Option.some.inj e)) (fun e => nvb.2 (Option.some.inj e)))
  replace Sc := Lib.hid (Sc.out.keep hg3 (fun e => nvc.1 (Option.some.inj e)) (fun e => nvc.2 (Option.some.inj e)))
  replace Su := Lib.hid (Su.out.keep hg3 (fun e => nvu.1 (Option.some.inj e)) (fun e => nvu.2 (Option.some.inj e)))
  replace Sv := Lib.hid hS3
  replace B := Lib.hid (B.out.grown hg3 B.out.size (fun j e => by cases e; exact hwv))
  clear hS3 hg3 hu
  go_wp2_with fail
  have hu := Union_calls pv bv pa ba (ofL (Z ++ Y)) (ofL X) W14 Sv.out Sa.out (good_of _) (good_of _) nva.2 nva.1
  obtain ⟨ue, us⟩ := uni_fits (Z ++ Y) X (by (try simp only [List.length_append]); omega)
  rw [ue, us] at hu
  clear ue us
  refine hu.mono ?_
  rintro e W15 ⟨rfl, hS3, hg3⟩
  replace Sa := Lib.hid (Sa.out.keep hg3 (fun e => nva.1 (Option.some.inj e)) (fun e => nva.2 (Option.some.inj e)))
  replace Sb := Lib.hid (Sb.out.keep hg3 (fun e => nvb.1 (Option.some.inj e)) (fun e => nvb.2 (Option.some.inj e)))
  replace Sc := Lib.hid (Sc.out.keep hg3 (fun e => nvc.1 (Option.some.inj e)) (fun e => nvc.2 (Option.some.inj e)))
  replace Su := Lib.hid (Su.out.keep hg3 (fun e => nvu.1 (Option.some.inj e)) (fun e => nvu.2 (Option.some.inj e)))
  replace Sv := Lib.hid hS3
  replace B := Lib.hid (B.out.grown hg3 B.out.size (fun j e => by cases e; exact hwv))
  clear hS3 hg3 hu
  go_wp2_with fail
  have hu := Union_calls pu bu pb bb (ofL (X ++ Y ++ Z)) (ofL Y) W15 Su.out Sb.out (good_of _) (good_of _) nub.2 nub.1
  obtain ⟨ue, us⟩ := uni_fits (X ++ Y ++ Z) Y (by (try simp only [List.length_append]); omega)
  rw [ue, us] at hu
  clear ue us
  refine hu.mono ?_
  rintro e W16 ⟨rfl, hS3, hg3⟩
  replace Sa := Lib.hid (Sa.out.keep hg3 (fun e => nua.1 (Option.some.inj e)) (fun e => nua.2 (Option.some.inj e)))
  replace Sb := Lib.hid (Sb.out.keep hg3 (fun e => nub.1 (Option.some.inj e)) (fun e => nub.2 (Option.some.inj e)))
  replace Sc := Lib.hid (Sc.out.keep hg3 (fun e => nuc.1 (Option.some.inj e)) (fun e => nuc.2 (Option.some.inj e)))
  replace Sv := Lib.hid (Sv.out.keep hg3 (fun e => nuv.1 (Option.some.inj e)) (fun e => nuv.2 (Option.some.inj e)))
  replace Su := Lib.hid hS3
  replace B := Lib.hid (B.out.grown hg3 B.out.size (fun j e => by cases e; exact hwu))
  clear hS3 hg3 hu
  clear nua nub nuc nuv nva nvb nvc nvu hwu hwv
  generalize hEU : ofL (X ++ Y ++ Z ++ Y) = EU at *
  generalize hEV : ofL (Z ++ Y ++ X) = EV at *
  have GU := Lib.hid (show Good EU by rw [← hEU]; exact good_of _)
  have GV := Lib.hid (show Good EV by rw [← hEV]; exact good_of _)
  have HEQ := Lib.hid (fun hT => un_eq (X := X) (Y := Y) (Z := Z) lX lY lZ hT)
  have HLE := Lib.hid (un_le (X := X) (Y := Y) (Z := Z) lX lY lZ)
  rw [hEU, hEV] at HEQ
  rw [hEU] at HLE
  clear hEU hEV
  go_wp2_with fail
  refine (CX.out W16 B.out).mono ?_
  rintro e W17 ⟨vc, rfl, hrow, b3⟩
  have RX := Lib.hid hrow
  have ka := And.intro Sa.out.ltp Sa.out.ltb
  have kb := And.intro Sb.out.ltp Sb.out.ltb
  have kc := And.intro Sc.out.ltp Sc.out.ltb
  have ku := And.intro Su.out.ltp Su.out.ltb
  have kv := And.intro Sv.out.ltp Sv.out.ltb
  have hbase := B.out.size
  have hbz := b3.size
  replace Sa := Lib.hid (Sa.out.below b3)
  replace Sb := Lib.hid (Sb.out.below b3)
  replace Sc := Lib.hid (Sc.out.below b3)
  replace Su := Lib.hid (Su.out.below b3)
  replace Sv := Lib.hid (Sv.out.below b3)
  replace B := Lib.hid (B.out.trans (b3.mono B.out.size))
  clear b3 hrow
  go_wp2_with fail
  refine (CY.out W17 B.out).mono ?_
  rintro e W18 ⟨vc, rfl, hrow, b3⟩
  have RY := Lib.hid hrow
  have hbz2 := b3.size
  replace Sa := Lib.hid (Sa.out.below b3)
  replace Sb := Lib.hid (Sb.out.below b3)
  replace Sc := Lib.hid (Sc.out.below b3)
  replace Su := Lib.hid (Su.out.below b3)
  replace Sv := Lib.hid (Sv.out.below b3)
  replace RX := Lib.hid (RX.out.below b3)
  replace B := Lib.hid (B.out.trans (b3.mono B.out.size))
  clear b3 hrow
  obtain ⟨v12, W19, happ, hr12, hg12⟩ := append_facts W16.heap.size _ W18 RX.out RY.out (by omega) (by (try simp only [List.length_append]); omega) 22
  go_wp2_with (at_builtin; refine wpList_append_run rfl _ _ _ rfl _ _ rfl rfl happ ?_)
  replace Sa := Lib.hid (Sa.out.row RX.out ka.1 ka.2 hg12)
  replace Sb := Lib.hid (Sb.out.row RX.out kb.1 kb.2 hg12)
  replace Sc := Lib.hid (Sc.out.row RX.out kc.1 kc.2 hg12)
  replace Su := Lib.hid (Su.out.row RX.out ku.1 ku.2 hg12)
  replace Sv := Lib.hid (Sv.out.row RX.out kv.1 kv.2 hg12)
  replace B := Lib.hid (B.out.grown hg12 B.out.size (fun j e => by have := RX.out.lt j e; omega))
  have hbz3 := hg12.size
  replace RX := Lib.hid hr12
  clear happ hr12 hg12 RY
  refine (CZ.out W19 B.out).mono ?_
  rintro e W20 ⟨vc, rfl, hrow, b3⟩
  have RZ := Lib.hid hrow
  have hbz4 := b3.size
  replace Sa := Lib.hid (Sa.out.below b3)
  replace Sb := Lib.hid (Sb.out.below b3)
  replace Sc := Lib.hid (Sc.out.below b3)
  replace Su := Lib.hid (Su.out.below b3)
  replace Sv := Lib.hid (Sv.out.below b3)
  replace RX := Lib.hid (RX.out.below b3)
  replace B := Lib.hid (B.out.trans (b3.mono B.out.size))
  clear b3 hrow
  obtain ⟨v12, W21, happ, hr12, hg12⟩ := append_facts W16.heap.size _ W20 RX.out RZ.out (by omega) (by (try simp only [List.length_append]); omega) 22
  go_wp2_with (at_builtin; refine wpList_append_run rfl _ _ _ rfl _ _ rfl rfl happ ?_)
  replace Sa := Lib.hid (Sa.out.row RX.out ka.1 ka.2 hg12)
  replace Sb := Lib.hid (Sb.out.row RX.out kb.1 kb.2 hg12)
  replace Sc := Lib.hid (Sc.out.row RX.out kc.1 kc.2 hg12)
  replace Su := Lib.hid (Su.out.row RX.out ku.1 ku.2 hg12)
  replace Sv := Lib.hid (Sv.out.row RX.out kv.1 kv.2 hg12)
  replace B := Lib.hid (B.out.grown hg12 B.out.size (fun j e => by have := RX.out.lt j e; omega))
  obtain ⟨AF, cF, rfl, hcF, hF⟩ := RowA.slice hr12
  have FF := Lib.hid hF
  clear happ hr12 hg12 RX RZ hF hbz hbz2 hbz3 hbz4 hbase hcF ka kb kc ku kv
  have hFl : (X ++ Y ++ Z).length ≤ 1000000 := by simp only [List.length_append]; omega
  generalize X ++ Y ++ Z = XYZ at *
  refine (of_calls XYZ AF cF W21 (HK.out _ B.out) FF.out hFl).mono ?_
  rintro e W22 ⟨pw, bw, rfl, hS, -, -, b3⟩
  replace FF := Lib.hid (FF.out.keep b3)
  replace Sa := Lib.hid (Sa.out.below b3)
  replace Sb := Lib.hid (Sb.out.below b3)
  replace Sc := Lib.hid (Sc.out.below b3)
  replace Su := Lib.hid (Su.out.below b3)
  replace Sv := Lib.hid (Sv.out.below b3)
  replace B := Lib.hid (B.out.trans (b3.mono B.out.size))
  have Sw := Lib.hid hS
  clear hS b3
  have HTW := Lib.hid (fun W hs => Twins_calls XYZ AF cF W hs hFl)
  go_wp2_with fail
  refine (same_sets pu bu pv bv EU EV W22 (HK.out _ B.out) Su.out Sv.out GU.out GV.out).mono ?_
  rintro e W23 ⟨c1, rfl, hc1, b3⟩
  replace FF := Lib.hid (FF.out.keep b3)
  replace Sa := Lib.hid (Sa.out.below b3)
  replace Sb := Lib.hid (Sb.out.below b3)
  replace Sc := Lib.hid (Sc.out.below b3)
  replace Su := Lib.hid (Su.out.below b3)
  replace Sv := Lib.hid (Sv.out.below b3)
  replace Sw := Lib.hid (Sw.out.below b3)
  replace B := Lib.hid (B.out.trans (b3.mono B.out.size))
  clear b3
  cases c1 with
  | false =>
    go_wp2_with fail
    refine (HTW.out _ FF.out).mono ?_
    rintro e W24 ⟨c3, rfl, hc3, b3⟩
    have hc4 : c3 = true := by
      by_cases hT : TwinsP XYZ
      · exact hc3 hT
      · exact absurd (hc1 (HEQ.out hT).1) (by decide)
    subst hc4
    replace Sa := Lib.hid (Sa.out.below b3)
    replace Sb := Lib.hid (Sb.out.below b3)
    replace Sc := Lib.hid (Sc.out.below b3)
    replace Su := Lib.hid (Su.out.below b3)
    replace Sv := Lib.hid (Sv.out.below b3)
    replace Sw := Lib.hid (Sw.out.below b3)
    replace B := Lib.hid (B.out.trans (b3.mono B.out.size))
    clear b3 hc1 hc3
    go_wp2_with fail
    refine (CY.out W24 B.out).mono ?_
    rintro e W25 ⟨vc, rfl, hrow, b3⟩
    obtain ⟨Ac, cc, rfl, hcc, hst⟩ := RowA.slice hrow
    replace Sa := Lib.hid (Sa.out.below b3)
    replace Sb := Lib.hid (Sb.out.below b3)
    replace Sc := Lib.hid (Sc.out.below b3)
    replace Su := Lib.hid (Su.out.below b3)
    replace Sv := Lib.hid (Sv.out.below b3)
    replace Sw := Lib.hid (Sw.out.below b3)
    replace B := Lib.hid (B.out.trans (b3.mono B.out.size))
    clear b3 hrow hcc
    go_wp2_with fail
    refine (of_calls Y Ac cc W25 (HK.out _ B.out) hst (by omega)).mono ?_
    rintro e W26 ⟨py, by2, rfl, hS, -, -, b3⟩
    replace Sa := Lib.hid (Sa.out.below b3)
    replace Sb := Lib.hid (Sb.out.below b3)
    replace Sc := Lib.hid (Sc.out.below b3)
    replace Su := Lib.hid (Su.out.below b3)
    replace Sv := Lib.hid (Sv.out.below b3)
    replace Sw := Lib.hid (Sw.out.below b3)
    replace B := Lib.hid (B.out.trans (b3.mono B.out.size))
    have Sy := Lib.hid hS
    clear hS b3 hst
    go_wp2_with fail
    refine (same_sets pb bb py by2 (ofL Y) (ofL Y) W26 (HK.out _ B.out) Sb.out Sy.out (good_of _) (good_of _)).mono ?_
    rintro e W27 ⟨c9, rfl, hc9, b3⟩
    obtain rfl := hc9 rfl
    replace Sa := Lib.hid (Sa.out.below b3)
    replace Sb := Lib.hid (Sb.out.below b3)
    replace Sc := Lib.hid (Sc.out.below b3)
    replace Su := Lib.hid (Su.out.below b3)
    replace Sv := Lib.hid (Sv.out.below b3)
    replace Sw := Lib.hid (Sw.out.below b3)
    replace B := Lib.hid (B.out.trans (b3.mono B.out.size))
    clear b3 hc9
    have h1 := Len_calls pu bu EU W27 Su.out
    have h2 := Len_calls pa ba (ofL X) W27 Sa.out
    have h3 := Len_calls pb bb (ofL Y) W27 Sb.out
    have h4 := Len_calls pc bc (ofL Z) W27 Sc.out
    obtain ⟨m1, m2, m3⟩ := HLE.out
    generalize EU.length = nu at *
    generalize (ofL X).length = nx at *
    generalize (ofL Y).length = ny at *
    generalize (ofL Z).length = nz at *
    go_wp2_with fail
    refine h1.mono ?_
    rintro e W9' ⟨rfl, rfl⟩
    go_wp2_with fail
    refine h2.mono ?_
    rintro e W9' ⟨rfl, rfl⟩
    go_wp2_with fail
    refine h3.mono ?_
    rintro e W9' ⟨rfl, rfl⟩
    go_wp2_with fail
    refine h4.mono ?_
    rintro e W9' ⟨rfl, rfl⟩
    go_wp2_with fail
    all_goals (go_ret; exact ⟨rfl, B.out⟩)
  | true =>
    go_wp2_with fail
    refine (same_sets pu bu pw bw EU (ofL XYZ) W23 (HK.out _ B.out) Su.out Sw.out GU.out (good_of _)).mono ?_
    rintro e W28 ⟨c2, rfl, hc2, b3⟩
    replace FF := Lib.hid (FF.out.keep b3)
    replace Sa := Lib.hid (Sa.out.below b3)
    replace Sb := Lib.hid (Sb.out.below b3)
    replace Sc := Lib.hid (Sc.out.below b3)
    replace Su := Lib.hid (Su.out.below b3)
    replace Sv := Lib.hid (Sv.out.below b3)
    replace Sw := Lib.hid (Sw.out.below b3)
    replace B := Lib.hid (B.out.trans (b3.mono B.out.size))
    clear b3
    cases c2 with
    | false =>
      go_wp2_with fail
      refine (HTW.out _ FF.out).mono ?_
      rintro e W29 ⟨c3, rfl, hc3, b3⟩
      have hc4 : c3 = true := by
        by_cases hT : TwinsP XYZ
        · exact hc3 hT
        · exact absurd (hc2 (HEQ.out hT).2) (by decide)
      subst hc4
      replace Sa := Lib.hid (Sa.out.below b3)
      replace Sb := Lib.hid (Sb.out.below b3)
      replace Sc := Lib.hid (Sc.out.below b3)
      replace Su := Lib.hid (Su.out.below b3)
      replace Sv := Lib.hid (Sv.out.below b3)
      replace Sw := Lib.hid (Sw.out.below b3)
      replace B := Lib.hid (B.out.trans (b3.mono B.out.size))
      clear b3 hc1 hc2 hc3
      go_wp2_with fail
      refine (CY.out W29 B.out).mono ?_
      rintro e W30 ⟨vc, rfl, hrow, b3⟩
      obtain ⟨Ac, cc, rfl, hcc, hst⟩ := RowA.slice hrow
      replace Sa := Lib.hid (Sa.out.below b3)
      replace Sb := Lib.hid (Sb.out.below b3)
      replace Sc := Lib.hid (Sc.out.below b3)
      replace Su := Lib.hid (Su.out.below b3)
      replace Sv := Lib.hid (Sv.out.below b3)
      replace Sw := Lib.hid (Sw.out.below b3)
      replace B := Lib.hid (B.out.trans (b3.mono B.out.size))
      clear b3 hrow hcc
      go_wp2_with fail
      refine (of_calls Y Ac cc W30 (HK.out _ B.out) hst (by omega)).mono ?_
      rintro e W31 ⟨py, by2, rfl, hS, -, -, b3⟩
      replace Sa := Lib.hid (Sa.out.below b3)
      replace Sb := Lib.hid (Sb.out.below b3)
      replace Sc := Lib.hid (Sc.out.below b3)
      replace Su := Lib.hid (Su.out.below b3)
      replace Sv := Lib.hid (Sv.out.below b3)
      replace Sw := Lib.hid (Sw.out.below b3)
      replace B := Lib.hid (B.out.trans (b3.mono B.out.size))
      have Sy := Lib.hid hS
      clear hS b3 hst
      go_wp2_with fail
      refine (same_sets pb bb py by2 (ofL Y) (ofL Y) W31 (HK.out _ B.out) Sb.out Sy.out (good_of _) (good_of _)).mono ?_
      rintro e W32 ⟨c9, rfl, hc9, b3⟩
      obtain rfl := hc9 rfl
      replace Sa := Lib.hid (Sa.out.below b3)
      replace Sb := Lib.hid (Sb.out.below b3)
      replace Sc := Lib.hid (Sc.out.below b3)
      replace Su := Lib.hid (Su.out.below b3)
      replace Sv := Lib.hid (Sv.out.below b3)
      replace Sw := Lib.hid (Sw.out.below b3)
      replace B := Lib.hid (B.out.trans (b3.mono B.out.size))
      clear b3 hc9
      have h1 := Len_calls pu bu EU W32 Su.out
      have h2 := Len_calls pa ba (ofL X) W32 Sa.out
      have h3 := Len_calls pb bb (ofL Y) W32 Sb.out
      have h4 := Len_calls pc bc (ofL Z) W32 Sc.out
      obtain ⟨m1, m2, m3⟩ := HLE.out
      generalize EU.length = nu at *
      generalize (ofL X).length = nx at *
      generalize (ofL Y).length = ny at *
      generalize (ofL Z).length = nz at *
      go_wp2_with fail
      refine h1.mono ?_
      rintro e W9' ⟨rfl, rfl⟩
      go_wp2_with fail
      refine h2.mono ?_
      rintro e W9' ⟨rfl, rfl⟩
      go_wp2_with fail
      refine h3.mono ?_
      rintro e W9' ⟨rfl, rfl⟩
      go_wp2_with fail
      refine h4.mono ?_
      rintro e W9' ⟨rfl, rfl⟩
      go_wp2_with fail
      all_goals (go_ret; exact ⟨rfl, B.out⟩)
    | true =>
      go_wp2_with fail
      refine (CY.out W28 B.out).mono ?_
      rintro e W33 ⟨vc, rfl, hrow, b3⟩
      obtain ⟨Ac, cc, rfl, hcc, hst⟩ := RowA.slice hrow
      replace Sa := Lib.hid (Sa.out.below b3)
      replace Sb := Lib.hid (Sb.out.below b3)
      replace Sc := Lib.hid (Sc.out.below b3)
      replace Su := Lib.hid (Su.out.below b3)
      replace Sv := Lib.hid (Sv.out.below b3)
      replace Sw := Lib.hid (Sw.out.below b3)
      replace B := Lib.hid (B.out.trans (b3.mono B.out.size))
      clear b3 hrow hcc
      go_wp2_with fail
      refine (of_calls Y Ac cc W33 (HK.out _ B.out) hst (by omega)).mono ?_
      rintro e W34 ⟨py, by2, rfl, hS, -, -, b3⟩
      replace Sa := Lib.hid (Sa.out.below b3)
      replace Sb := Lib.hid (Sb.out.below b3)
      replace Sc := Lib.hid (Sc.out.below b3)
      replace Su := Lib.hid (Su.out.below b3)
      replace Sv := Lib.hid (Sv.out.below b3)
      replace Sw := Lib.hid (Sw.out.below b3)
      replace B := Lib.hid (B.out.trans (b3.mono B.out.size))
      have Sy := Lib.hid hS
      clear hS b3 hst
      go_wp2_with fail
      refine (same_sets pb bb py by2 (ofL Y) (ofL Y) W34 (HK.out _ B.out) Sb.out Sy.out (good_of _) (good_of _)).mono ?_
      rintro e W35 ⟨c9, rfl, hc9, b3⟩
      obtain rfl := hc9 rfl
      replace Sa := Lib.hid (Sa.out.below b3)
      replace Sb := Lib.hid (Sb.out.below b3)
      replace Sc := Lib.hid (Sc.out.below b3)
      replace Su := Lib.hid (Su.out.below b3)
      replace Sv := Lib.hid (Sv.out.below b3)
      replace Sw := Lib.hid (Sw.out.below b3)
      replace B := Lib.hid (B.out.trans (b3.mono B.out.size))
      clear b3 hc9
      have h1 := Len_calls pu bu EU W35 Su.out
      have h2 := Len_calls pa ba (ofL X) W35 Sa.out
      have h3 := Len_calls pb bb (ofL Y) W35 Sb.out
      have h4 := Len_calls pc bc (ofL Z) W35 Sc.out
      obtain ⟨m1, m2, m3⟩ := HLE.out
      generalize EU.length = nu at *
      generalize (ofL X).length = nx at *
      generalize (ofL Y).length = ny at *
      generalize (ofL Z).length = nz at *
      go_wp2_with fail
      refine h1.mono ?_
      rintro e W9' ⟨rfl, rfl⟩
      go_wp2_with fail
      refine h2.mono ?_
      rintro e W9' ⟨rfl, rfl⟩
      go_wp2_with fail
      refine h3.mono ?_
      rintro e W9' ⟨rfl, rfl⟩
      go_wp2_with fail
      refine h4.mono ?_
      rintro e W9' ⟨rfl, rfl⟩
      go_wp2_with fail
      all_goals (go_ret; exact ⟨rfl, B.out⟩)
end Go.Proofs.YtmhphmolbjjopaaDoor
