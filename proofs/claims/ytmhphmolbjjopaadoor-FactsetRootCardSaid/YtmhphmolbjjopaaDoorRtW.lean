/- The contract of the laws' collide: it says true of two different lists with one root. | The walk of FactsetRoot. -/
import Derived.Test.YtmhphmolbjjopaaDoorSne
import Derived.Test.YtmhphmolbjjopaaDoorLaidi
import Derived.Test.YtmhphmolbjjopaaDoorHsh
import Derived.Test.YtmhphmolbjjopaaDoorPtp
namespace Go.Proofs.YtmhphmolbjjopaaDoor
open Go.RowKit Go.Maps
theorem collide_calls (a b : List Bs) (A B : Option Addr) (ca cb : Nat) (w : World) (ha : HS w A a) (hb : HS w B b) (hla : a.length ≤ 100000) (hlb : b.length ≤ 100000) (hca : a.length ≤ ca) (hcb : b.length ≤ cb)
    (hxa : ∀ x ∈ a, x.length ≤ 400000) (hxb : ∀ x ∈ b, x.length ≤ 400000) :
    Calls Tryd.prog 25 #[.slice A a.length ca, .slice B b.length cb] w fun e W' => (∃ c, e = .returned (.bool c) ∧ (rootF shaF a = rootF shaF b → a ≠ b → c = true)) ∧ Below w.heap.size w W' := by
  have h1 := hash_len a
  have h2 := hash_len b
  have h3 := hash_short 400000 a.length a (Nat.le_refl _) hxa
  have h4 := hash_short 400000 b.length b (Nat.le_refl _) hxb
  have HA := Lib.hid (Hashed_calls a A ca w hla hca (Hid.out ha) hxa)
  have HB := Lib.hid (fun W (hW : Below w.heap.size w W) => Hashed_calls b B cb W hlb hcb (Hid.out (hb.keep hW)) hxb)
  have HC := Lib.hid (fun hr hn => hash_coll a.length a b (Nat.le_refl _) hr hn)
  clear ha hb hxa hxb
  go_enter Tryd.func25, Tryd.ntmps25
  go_wp2_with fail
  refine HA.out.mono ?_
  rintro e W1 ⟨⟨v1, rfl, hr1⟩, b1⟩
  go_wp2_with fail
  refine (HB.out _ b1).mono ?_
  rintro e W2 ⟨⟨v2, rfl, hr2⟩, b2⟩
  obtain ⟨A1, c1, rfl, hc1, hs1⟩ := RowS.slice (RowS.below hr1 b2)
  obtain ⟨A2, c2, rfl, hc2, hs2⟩ := RowS.slice hr2
  have k1 : HS W2 A1 (hashF a) := Lib.hid hs1
  have k2 : HS W2 A2 (hashF b) := Lib.hid hs2
  have B2 := Lib.hid (b1.trans (b2.mono b1.size))
  clear hs1 hs2 hr1 hr2 b1 b2 HA HB
  go_wp2_with fail
  refine (Collided_calls (hashF a) (hashF b) A1 A2 c1 c2 W2 k1 k2 (by omega) (by omega) (fun x hx => Nat.le_trans (h3 x hx) (by decide)) (fun x hx => Nat.le_trans (h4 x hx) (by decide))).mono ?_
  rintro e W3 ⟨⟨c, rfl, hc⟩, b3⟩
  go_wp2_with fail
  go_ret
  exact ⟨⟨_, rfl, fun hr hn => hc (HC.out hr hn)⟩, B2.out.trans (b3.mono B2.out.size)⟩
theorem FactsS.takeS {w : World} {A : Option Addr} {l : List Fa} (h : FactsS w A l) (k : Nat) : FactsS w A (l.take k) := by
  rcases h with h | ⟨b, o, e, h⟩
  · exact .inl (by rw [h, List.take_nil])
  · refine .inr ⟨b, o, e, fun i hi j x hx => ?_⟩
    rw [List.length_take] at hi
    refine h i (by omega) j x ?_
    rw [List.getD_eq_getElem?_getD, List.getElem?_take_of_lt (by omega), ← List.getD_eq_getElem?_getD] at hx
    exact hx
theorem keylen6 {es : List Ent} (h : Good es) {k : Bs} (hk : k ∈ idsE es) : k.length = 32 := by
  obtain ⟨p, hp, rfl⟩ := List.mem_map.1 hk
  exact good_key h hp
set_option maxRecDepth 100000 in
set_option maxHeartbeats 8000000 in
theorem root_walk (A : Option Addr) (l : List Fa) (cap : Nat) (A' : Option Addr) (m : List Fa) (cap' : Nat) (less : Bool) (w : World) (hK : Konst w) (_hc : l.length ≤ cap) (hl : l.length ≤ 9223372036854775807) (hA : FactsS w A l) (hx : ∀ f ∈ l, FaR f)
    (_hc' : m.length ≤ cap') (hl' : m.length ≤ 9223372036854775807) (hA' : FactsS w A' m) (hx' : ∀ f ∈ m, FaR f) :
    Calls Tryd.prog 5 #[.slice A l.length cap, .slice A' m.length cap', .bool less] w fun e W' => e = .returned (.bool true) ∧ Below w.heap.size w W' := by
  have HSA := Lib.hid (sane_calls w hK)
  have CX := Lib.hid (fun W (hb : Below w.heap.size w W) => cut_calls l A cap W (hA.keep hb) hl (fun f hf => (hx f hf).2))
  have CY := Lib.hid (fun W (hb : Below w.heap.size w W) => cut_calls m A' cap' W (hA'.keep hb) hl' (fun f hf => (hx' f hf).2))
  have HK := Lib.hid (fun W (hb : Below w.heap.size w W) => hK.keep hb)
  clear hK hA hx hl _hc hA' hx' hl' _hc'
  have lX := cutL_length l
  have lY := cutL_length m
  generalize cutL l = X at *
  generalize cutL m = Y at *
  go_enter Tryd.func5, Tryd.ntmps5
  go_wp2_with fail
  refine HSA.out.mono ?_
  rintro e W1 ⟨rfl, b1⟩
  have B := Lib.hid b1
  clear b1 HSA
  go_wp2_with fail
  refine (CX.out W1 B.out).mono ?_
  rintro e W2 ⟨vc, rfl, hrow, b3⟩
  obtain ⟨Ac, cc, rfl, hcc, hst⟩ := RowA.slice hrow
  have FX := Lib.hid hst
  replace B := Lib.hid (B.out.trans (b3.mono B.out.size))
  clear b3 hrow hst
  go_wp2_with fail
  refine (CY.out W2 B.out).mono ?_
  rintro e W3 ⟨vd, rfl, hrow, b3⟩
  obtain ⟨Ad, cd, rfl, hcd, hst⟩ := RowA.slice hrow
  have FY := Lib.hid hst
  replace FX := Lib.hid (FX.out.keep b3)
  replace B := Lib.hid (B.out.trans (b3.mono B.out.size))
  clear b3 hrow hst
  cases less with
  | false =>
    go_wp2_with fail
    refine (of_calls X Ac cc W3 (HK.out _ B.out) FX.out (by omega)).mono ?_
    rintro e W4 ⟨ps, bs, rfl, hS, -, -, b3⟩
    replace FY := Lib.hid (FY.out.keep b3)
    have S := Lib.hid hS
    replace B := Lib.hid (B.out.trans (b3.mono B.out.size))
    clear b3 hS
    have hG := good_of X
    have hn : (ofL X).length ≤ 25 := Nat.le_trans (ofL_le X) lX
    generalize ofL X = es at *
    go_wp2_with fail
    refine (of_calls Y Ad cd W4 (HK.out _ B.out) FY.out (by omega)).mono ?_
    rintro e W5 ⟨pt, bt, rfl, hS, -, -, b3⟩
    replace S := Lib.hid (S.out.below b3)
    have T := Lib.hid hS
    replace B := Lib.hid (B.out.trans (b3.mono B.out.size))
    clear b3 hS
    have hH := good_of Y
    have hm : (ofL Y).length ≤ 25 := Nat.le_trans (ofL_le Y) lY
    generalize ofL Y = ts at *
    go_wp2_with fail
    refine (IDs_calls (some ⟨ps, 0, none⟩) es W5 (.inr ⟨ps, bs, rfl, S.out, hG⟩)).mono ?_
    rintro e W6 ⟨lv, rfl, hrow, b3⟩
    obtain ⟨Ak, ck, rfl, hck, hsl, -⟩ := RowS.addr hrow
    change HS W6 Ak (idsE es) at hsl
    have KS := hsl
    have hkes : (es.map (·.1)).length = (idsE es).length := rfl
    rw [hkes] at hck ⊢
    clear hkes
    replace S := Lib.hid (S.out.below b3)
    replace T := Lib.hid (T.out.below b3)
    replace B := Lib.hid (B.out.trans (b3.mono B.out.size))
    clear b3 hrow hsl
    go_wp2_with fail
    refine (IDs_calls (some ⟨pt, 0, none⟩) ts W6 (.inr ⟨pt, bt, rfl, T.out, hH⟩)).mono ?_
    rintro e W7 ⟨lv, rfl, hrow, b3⟩
    obtain ⟨Al, cl, rfl, hcl, hsl, -⟩ := RowS.addr hrow
    change HS W7 Al (idsE ts) at hsl
    have LS := hsl
    replace KS := KS.keep b3
    have hkts : (ts.map (·.1)).length = (idsE ts).length := rfl
    rw [hkts] at hcl ⊢
    clear hkts
    replace S := Lib.hid (S.out.below b3)
    replace T := Lib.hid (T.out.below b3)
    replace B := Lib.hid (B.out.trans (b3.mono B.out.size))
    clear b3 hrow hsl
    go_wp2_with fail
    have hkn : (idsE es).length ≤ 25 := by unfold idsE; rw [List.length_map]; exact hn
    have hln : (idsE ts).length ≤ 25 := by unfold idsE; rw [List.length_map]; exact hm
    have HKS := Lib.hid (show ∀ k ∈ idsE es, k.length ≤ 400000 from fun k hk => by rw [keylen6 hG hk]; decide)
    have HLS := Lib.hid (show ∀ k ∈ idsE ts, k.length ≤ 400000 from fun k hk => by rw [keylen6 hH hk]; decide)
    have HRA := Lib.hid (fun W (hb : Below w.heap.size w W) hS => RootSet ps bs es W (HK.out _ hb) hS hG)
    have HRB := Lib.hid (fun W (hb : Below w.heap.size w W) hS => RootSet pt bt ts W (HK.out _ hb) hS hH)
    generalize idsE es = K at *
    generalize idsE ts = L at *
    refine (same_any K L Ak Al ck cl W7 (Hid.out KS) (Hid.out LS) (by omega)).mono ?_
    rintro e W8 ⟨rfl, b3⟩
    replace S := Lib.hid (S.out.below b3)
    replace T := Lib.hid (T.out.below b3)
    replace KS := KS.keep b3
    replace LS := LS.keep b3
    replace B := Lib.hid (B.out.trans (b3.mono B.out.size))
    clear b3
    by_cases hKL : K = L
    · subst hKL
      rw [decide_eq_true rfl]
      generalize (⟨(rootF shaF K).toArray⟩ : ByteArray) = R at *
      go_wp2_with fail
      refine (HRA.out _ B.out S.out).mono ?_
      rintro e W9 ⟨rfl, b3⟩
      replace S := Lib.hid (S.out.below b3)
      replace T := Lib.hid (T.out.below b3)
      replace KS := KS.keep b3
      replace LS := LS.keep b3
      replace B := Lib.hid (B.out.trans (b3.mono B.out.size))
      clear b3
      go_wp2_with fail
      refine (HRB.out _ B.out T.out).mono ?_
      rintro e W10 ⟨rfl, b3⟩
      replace S := Lib.hid (S.out.below b3)
      replace T := Lib.hid (T.out.below b3)
      replace KS := KS.keep b3
      replace LS := LS.keep b3
      replace B := Lib.hid (B.out.trans (b3.mono B.out.size))
      clear b3
      go_wp2_with fail
      go_ret
      exact ⟨rfl, B.out⟩
    · rw [decide_eq_false hKL]
      have HCo := Lib.hid (fun W hk hl => collide_calls K L Ak Al ck cl W hk hl (by omega) (by omega) hck hcl HKS.out HLS.out)
      generalize rootF shaF K = r1 at *
      generalize rootF shaF L = r2 at *
      by_cases hr : r1 = r2
      · subst hr
        generalize (⟨r1.toArray⟩ : ByteArray) = R at *
        go_wp2_with fail
        refine (HRA.out _ B.out S.out).mono ?_
        rintro e W9 ⟨rfl, b3⟩
        replace S := Lib.hid (S.out.below b3)
        replace T := Lib.hid (T.out.below b3)
        replace KS := KS.keep b3
        replace LS := LS.keep b3
        replace B := Lib.hid (B.out.trans (b3.mono B.out.size))
        clear b3
        go_wp2_with fail
        refine (HRB.out _ B.out T.out).mono ?_
        rintro e W10 ⟨rfl, b3⟩
        replace S := Lib.hid (S.out.below b3)
        replace T := Lib.hid (T.out.below b3)
        replace KS := KS.keep b3
        replace LS := LS.keep b3
        replace B := Lib.hid (B.out.trans (b3.mono B.out.size))
        clear b3
        go_wp2_with fail
        refine (HCo.out _ KS LS).mono ?_
        rintro e W11 ⟨⟨c, rfl, hc⟩, b3⟩
        obtain rfl := hc (by first | rfl | trivial) hKL
        replace S := Lib.hid (S.out.below b3)
        replace T := Lib.hid (T.out.below b3)
        replace KS := KS.keep b3
        replace LS := LS.keep b3
        replace B := Lib.hid (B.out.trans (b3.mono B.out.size))
        clear b3
        go_wp2_with fail
        go_ret
        exact ⟨rfl, B.out⟩
      · have hbe : (r1 == r2) = false := beq_eq_false_iff_ne.2 hr
        go_wp2_with fail
        refine (HRA.out _ B.out S.out).mono ?_
        rintro e W9 ⟨rfl, b3⟩
        replace S := Lib.hid (S.out.below b3)
        replace T := Lib.hid (T.out.below b3)
        replace KS := KS.keep b3
        replace LS := LS.keep b3
        replace B := Lib.hid (B.out.trans (b3.mono B.out.size))
        clear b3
        go_wp2_with fail
        refine (HRB.out _ B.out T.out).mono ?_
        rintro e W10 ⟨rfl, b3⟩
        replace S := Lib.hid (S.out.below b3)
        replace T := Lib.hid (T.out.below b3)
        replace KS := KS.keep b3
        replace LS := LS.keep b3
        replace B := Lib.hid (B.out.trans (b3.mono B.out.size))
        clear b3
        go_wp2_with fail
        go_ret
        exact ⟨rfl, B.out⟩
  | true =>
    have FZ := Lib.hid (FX.out.takeS (X.length - 1))
    have lZ : (X.take (X.length - 1)).length ≤ 25 := by rw [List.length_take]; omega
    have Hz := Lib.hid (show (max ((X.length : Int) - 1) 0).toNat = (X.take (X.length - 1)).length by rw [List.length_take]; omega)
    have q1 : IntKind.i64.wrap ((X.length : Int) - 1) = (X.length : Int) - 1 := IntWalk.i64_in _ (by omega)
    have q2 : 0 ≤ max ((X.length : Int) - 1) 0 := by omega
    have q3 : max ((X.length : Int) - 1) 0 ≤ (cc : Int) := by omega
    go_wp2_with fail
    have hz := Hz.out
    clear Hz
    obtain ⟨Z, hZ⟩ : ∃ Z, X.take (X.length - 1) = Z := ⟨_, rfl⟩
    rw [hZ] at hz FZ lZ
    rw [hz]
    clear hz hZ q1 q2 q3
    refine (of_calls X Ac cc W3 (HK.out _ B.out) FX.out (by omega)).mono ?_
    rintro e W4 ⟨ps, bs, rfl, hS, -, -, b3⟩
    replace FZ := Lib.hid (FZ.out.keep b3)
    have S := Lib.hid hS
    replace B := Lib.hid (B.out.trans (b3.mono B.out.size))
    clear b3 hS
    have hG := good_of X
    have hn : (ofL X).length ≤ 25 := Nat.le_trans (ofL_le X) lX
    generalize ofL X = es at *
    go_wp2_with fail
    refine (of_calls Z Ac cc W4 (HK.out _ B.out) FZ.out (by omega)).mono ?_
    rintro e W5 ⟨pt, bt, rfl, hS, -, -, b3⟩
    replace S := Lib.hid (S.out.below b3)
    have T := Lib.hid hS
    replace B := Lib.hid (B.out.trans (b3.mono B.out.size))
    clear b3 hS
    have hH := good_of Z
    have hm : (ofL Z).length ≤ 25 := Nat.le_trans (ofL_le Z) lZ
    generalize ofL Z = ts at *
    go_wp2_with fail
    refine (IDs_calls (some ⟨ps, 0, none⟩) es W5 (.inr ⟨ps, bs, rfl, S.out, hG⟩)).mono ?_
    rintro e W6 ⟨lv, rfl, hrow, b3⟩
    obtain ⟨Ak, ck, rfl, hck, hsl, -⟩ := RowS.addr hrow
    change HS W6 Ak (idsE es) at hsl
    have KS := hsl
    have hkes : (es.map (·.1)).length = (idsE es).length := rfl
    rw [hkes] at hck ⊢
    clear hkes
    replace S := Lib.hid (S.out.below b3)
    replace T := Lib.hid (T.out.below b3)
    replace B := Lib.hid (B.out.trans (b3.mono B.out.size))
    clear b3 hrow hsl
    go_wp2_with fail
    refine (IDs_calls (some ⟨pt, 0, none⟩) ts W6 (.inr ⟨pt, bt, rfl, T.out, hH⟩)).mono ?_
    rintro e W7 ⟨lv, rfl, hrow, b3⟩
    obtain ⟨Al, cl, rfl, hcl, hsl, -⟩ := RowS.addr hrow
    change HS W7 Al (idsE ts) at hsl
    have LS := hsl
    replace KS := KS.keep b3
    have hkts : (ts.map (·.1)).length = (idsE ts).length := rfl
    rw [hkts] at hcl ⊢
    clear hkts
    replace S := Lib.hid (S.out.below b3)
    replace T := Lib.hid (T.out.below b3)
    replace B := Lib.hid (B.out.trans (b3.mono B.out.size))
    clear b3 hrow hsl
    go_wp2_with fail
    have hkn : (idsE es).length ≤ 25 := by unfold idsE; rw [List.length_map]; exact hn
    have hln : (idsE ts).length ≤ 25 := by unfold idsE; rw [List.length_map]; exact hm
    have HKS := Lib.hid (show ∀ k ∈ idsE es, k.length ≤ 400000 from fun k hk => by rw [keylen6 hG hk]; decide)
    have HLS := Lib.hid (show ∀ k ∈ idsE ts, k.length ≤ 400000 from fun k hk => by rw [keylen6 hH hk]; decide)
    have HRA := Lib.hid (fun W (hb : Below w.heap.size w W) hS => RootSet ps bs es W (HK.out _ hb) hS hG)
    have HRB := Lib.hid (fun W (hb : Below w.heap.size w W) hS => RootSet pt bt ts W (HK.out _ hb) hS hH)
    generalize idsE es = K at *
    generalize idsE ts = L at *
    refine (same_any K L Ak Al ck cl W7 (Hid.out KS) (Hid.out LS) (by omega)).mono ?_
    rintro e W8 ⟨rfl, b3⟩
    replace S := Lib.hid (S.out.below b3)
    replace T := Lib.hid (T.out.below b3)
    replace KS := KS.keep b3
    replace LS := LS.keep b3
    replace B := Lib.hid (B.out.trans (b3.mono B.out.size))
    clear b3
    by_cases hKL : K = L
    · subst hKL
      rw [decide_eq_true rfl]
      generalize (⟨(rootF shaF K).toArray⟩ : ByteArray) = R at *
      go_wp2_with fail
      refine (HRA.out _ B.out S.out).mono ?_
      rintro e W9 ⟨rfl, b3⟩
      replace S := Lib.hid (S.out.below b3)
      replace T := Lib.hid (T.out.below b3)
      replace KS := KS.keep b3
      replace LS := LS.keep b3
      replace B := Lib.hid (B.out.trans (b3.mono B.out.size))
      clear b3
      go_wp2_with fail
      refine (HRB.out _ B.out T.out).mono ?_
      rintro e W10 ⟨rfl, b3⟩
      replace S := Lib.hid (S.out.below b3)
      replace T := Lib.hid (T.out.below b3)
      replace KS := KS.keep b3
      replace LS := LS.keep b3
      replace B := Lib.hid (B.out.trans (b3.mono B.out.size))
      clear b3
      go_wp2_with fail
      go_ret
      exact ⟨rfl, B.out⟩
    · rw [decide_eq_false hKL]
      have HCo := Lib.hid (fun W hk hl => collide_calls K L Ak Al ck cl W hk hl (by omega) (by omega) hck hcl HKS.out HLS.out)
      generalize rootF shaF K = r1 at *
      generalize rootF shaF L = r2 at *
      by_cases hr : r1 = r2
      · subst hr
        generalize (⟨r1.toArray⟩ : ByteArray) = R at *
        go_wp2_with fail
        refine (HRA.out _ B.out S.out).mono ?_
        rintro e W9 ⟨rfl, b3⟩
        replace S := Lib.hid (S.out.below b3)
        replace T := Lib.hid (T.out.below b3)
        replace KS := KS.keep b3
        replace LS := LS.keep b3
        replace B := Lib.hid (B.out.trans (b3.mono B.out.size))
        clear b3
        go_wp2_with fail
        refine (HRB.out _ B.out T.out).mono ?_
        rintro e W10 ⟨rfl, b3⟩
        replace S := Lib.hid (S.out.below b3)
        replace T := Lib.hid (T.out.below b3)
        replace KS := KS.keep b3
        replace LS := LS.keep b3
        replace B := Lib.hid (B.out.trans (b3.mono B.out.size))
        clear b3
        go_wp2_with fail
        refine (HCo.out _ KS LS).mono ?_
        rintro e W11 ⟨⟨c, rfl, hc⟩, b3⟩
        obtain rfl := hc (by first | rfl | trivial) hKL
        replace S := Lib.hid (S.out.below b3)
        replace T := Lib.hid (T.out.below b3)
        replace KS := KS.keep b3
        replace LS := LS.keep b3
        replace B := Lib.hid (B.out.trans (b3.mono B.out.size))
        clear b3
        go_wp2_with fail
        go_ret
        exact ⟨rfl, B.out⟩
      · have hbe : (r1 == r2) = false := beq_eq_false_iff_ne.2 hr
        go_wp2_with fail
        refine (HRA.out _ B.out S.out).mono ?_
        rintro e W9 ⟨rfl, b3⟩
        replace S := Lib.hid (S.out.below b3)
        replace T := Lib.hid (T.out.below b3)
        replace KS := KS.keep b3
        replace LS := LS.keep b3
        replace B := Lib.hid (B.out.trans (b3.mono B.out.size))
        clear b3
        go_wp2_with fail
        refine (HRB.out _ B.out T.out).mono ?_
        rintro e W10 ⟨rfl, b3⟩
        replace S := Lib.hid (S.out.below b3)
        replace T := Lib.hid (T.out.below b3)
        replace KS := KS.keep b3
        replace LS := LS.keep b3
        replace B := Lib.hid (B.out.trans (b3.mono B.out.size))
        clear b3
        go_wp2_with fail
        go_ret
        exact ⟨rfl, B.out⟩
end Go.Proofs.YtmhphmolbjjopaaDoor
