/- The walk of DigestExtensionBinding: for all roots, numbers and proofs it returns true, and nothing that was there has changed. Condition: the table of constants reads as the program lays it. -/
import Derived.Test.YtinioifhbafngaaDoorBindW
namespace Go.Proofs.YtinioifhbafngaaDoor
open Go.RowKit

theorem sidesR_small (old : Bs) (ho : old.length ≤ 60) (r : List Bs) : ∀ m n whole, (∀ x ∈ r, x.length ≤ 60) → ∀ y ∈ sidesR shaF old r m n whole, y.length ≤ 1000000000 := by
  induction r with
  | nil => intro m n whole _ y hy; simp [sidesR] at hy
  | cons x r ih =>
    intro m n whole hr y hy
    have hx := hr x (by simp)
    have hr' : ∀ z ∈ r, z.length ≤ 60 := fun z hz => hr z (by simp [hz])
    unfold sidesR at hy
    split at hy
    · simp at hy
    · split at hy
      · rcases List.mem_cons.1 hy with h | h
        · rw [h, List.length_cons, List.length_append]; have := bothR_length old ho r m (left n) whole hr'; omega
        · exact ih _ _ _ hr' y h
      · rcases List.mem_cons.1 hy with h | h
        · rw [h, List.length_cons, List.length_append]; have := bothR_length old ho r (m - left n) (n - left n) false hr'; omega
        · exact ih _ _ _ hr' y h

set_option maxRecDepth 100000 in
set_option maxHeartbeats 4000000 in
theorem extb_walk (ra : ByteArray) (Ap : Option Addr) (p : List Bs) (cp : Nat) (rb : ByteArray) (Aq : Option Addr) (q : List Bs) (cq : Nat) (m : Int) (root : ByteArray) (n : Int) (w : World) (hK : Konst w) (hra : ra.size ≤ 9223372036854775807)
    (_hcp : p.length ≤ cp) (hlp : p.length ≤ 9223372036854775807) (hsp : Strs w Ap p) (hxp : ∀ x ∈ p, x.length ≤ 9223372036854775807) (hrb : rb.size ≤ 9223372036854775807)
    (_hcq : q.length ≤ cq) (hlq : q.length ≤ 9223372036854775807) (hsq : Strs w Aq q) (hxq : ∀ x ∈ q, x.length ≤ 9223372036854775807)
    (_m1 : -9223372036854775808 ≤ m) (_m2 : m ≤ 9223372036854775807) (hr : root.size ≤ 9223372036854775807) (_n1 : -9223372036854775808 ≤ n) (n2 : n ≤ 9223372036854775807) :
    Calls Tryd.prog 9 #[.string ra, .slice Ap p.length cp, .string rb, .slice Aq q.length cq, .int .i64 m, .string root, .int .i64 n] w fun e W' => e = .returned (.bool true) ∧ Below w.heap.size w W' := by
  have k0 : HK w := Lib.hid hK
  have s0 : HS w Ap p := Lib.hid hsp
  have t0 : HS w Aq q := Lib.hid hsq
  have Hxp := Lib.hid hxp
  have Hxq := Lib.hid hxq
  clear hK hsp hsq hxp hxq
  go_enter Tryd.func9, Tryd.ntmps9
  go_wp2_with fail
  refine (sane_calls _ (Hid.out k0)).mono ?_
  rintro e w1 ⟨rfl, b1⟩
  have a1 := (Hld.refl w).step b1
  have k1 := k0.keep b1
  have s1 := s0.keep b1
  have t1 := t0.keep b1
  go_wp2_with fail
  refine (few_calls p Ap cp 70 _ (by omega) (Hid.out s1) Hxp.out hlp).mono ?_
  rintro e w2 ⟨⟨v2, rfl, hv2⟩, b2⟩
  have a2 := a1.step b2
  have k2 := k1.keep b2
  have t2 := t1.keep b2
  have hP := fewL_length p 70
  have HP60 := Lib.hid (fewL_60 p 70)
  generalize fewL p 70 = P at *
  obtain ⟨A2, c2, rfl, hc2, s2, _⟩ := hv2.lies
  clear hv2 s0 s1 t0 t1
  go_wp2_with fail
  refine (few_calls q Aq cq 70 _ (by omega) (Hid.out t2) Hxq.out hlq).mono ?_
  rintro e w3 ⟨⟨v3, rfl, hv3⟩, b3⟩
  have a3 := a2.step b3
  have k3 := k2.keep b3
  have s3 := s2.keep b3
  have hQ := fewL_length q 70
  have HQ60 := Lib.hid (fewL_60 q 70)
  generalize fewL q 70 = Q at *
  obtain ⟨A3, c3, rfl, hc3, t3, _⟩ := hv3.lies
  clear hv3 s2 t2
  have HV1 : Hid (∀ w', HK w' → HS w' A2 P → Calls Tryd.prog 30 #[.string ra, .int .i64 m, .string root, .int .i64 n, .slice A2 P.length c2] w' fun e W' => e = .returned (.bool (verEB ra.data.toList m root.data.toList n P)) ∧ Below w'.heap.size w' W') :=
    Lib.hid fun w' hk hs => VerifyExtension_calls ra m root n P A2 c2 w' (Hid.out hk) n2 (by omega) hc2 (Hid.out hs) (fun z hz => by have := HP60.out z hz; omega) hra hr
  have HV2 : Hid (∀ w', HK w' → HS w' A3 Q → Calls Tryd.prog 30 #[.string rb, .int .i64 m, .string root, .int .i64 n, .slice A3 Q.length c3] w' fun e W' => e = .returned (.bool (verEB rb.data.toList m root.data.toList n Q)) ∧ Below w'.heap.size w' W') :=
    Lib.hid fun w' hk hs => VerifyExtension_calls rb m root n Q A3 c3 w' (Hid.out hk) n2 (by omega) hc3 (Hid.out hs) (fun z hz => by have := HQ60.out z hz; omega) hrb hr
  by_cases hall : verEB ra.data.toList m root.data.toList n P = true ∧ verEB rb.data.toList m root.data.toList n Q = true ∧ ra ≠ rb
  · obtain ⟨g1, g2, g3⟩ := hall
    rw [g1] at HV1
    rw [g2] at HV2
    unfold verEB at g1 g2
    rw [decide_eq_true_iff] at g1 g2
    obtain ⟨i0, hin, ho1, _, h32, hok1⟩ := g1
    obtain ⟨_, _, ho2, _, h32', hok2⟩ := g2
    by_cases hm0 : m = 0
    · exfalso
      rw [if_pos hm0] at hok1 hok2
      exact ba_ne ra rb g3 (hok1.2.trans hok2.2.symm)
    rw [if_neg hm0] at hok1 hok2
    obtain ⟨m, rfl⟩ := Int.eq_ofNat_of_zero_le i0
    obtain ⟨n, rfl⟩ := Int.eq_ofNat_of_zero_le (show 0 ≤ n by omega)
    rw [Int.toNat_natCast, Int.toNat_natCast] at hok1 hok2
    obtain ⟨hok1, hf1, hval1⟩ := hok1
    obtain ⟨hok2, hf2, hval2⟩ := hok2
    have hPr : ∀ z ∈ P.reverse, z.length ≤ 60 := fun z hz => HP60.out z (by simpa using hz)
    have hQr : ∀ z ∈ Q.reverse, z.length ≤ 60 := fun z hz => HQ60.out z (by simpa using hz)
    have hcol : Collide shaF (sidesR shaF ra.data.toList P.reverse m n true) (sidesR shaF rb.data.toList Q.reverse m n true) :=
      ext_binding shaF shaF_length ra.data.toList rb.data.toList P.reverse Q.reverse m n true (by omega) (by omega) ho1 ho2 (fun z hz => h32 z (by simpa using hz)) (fun z hz => h32' z (by simpa using hz)) hok1 hok2 (hval1.trans hval2.symm) (by rw [hf1, hf2]; exact ba_ne ra rb g3)
    have HW1 : Hid (∀ w', HK w' → HS w' A2 P → Calls Tryd.prog 34 #[.string ra, .int .i64 (m : Int), .int .i64 (n : Int), .slice A2 P.length c2, .bool true] w' fun e W' =>
        (∃ v, e = .returned (.tuple #[v, .string ⟨(bothR shaF ra.data.toList P.reverse m n true).2.1.toArray⟩]) ∧ RowS W' w'.heap.size v (sidesR shaF ra.data.toList P.reverse m n true)) ∧ Below w'.heap.size w' W') := Lib.hid fun w' hk hs => by
      have := sides_main ra.data.toList (by rw [ho1]; omega) P.reverse A2 c2 m n true w' hk (by rw [List.length_reverse]; omega) (by rw [List.length_reverse]; exact hc2) (by rw [List.reverse_reverse]; exact Hid.out hs) hPr (by omega) (by omega) (by omega) hok1
      rw [List.length_reverse, mk_eta] at this
      exact this
    have HW2 : Hid (∀ w', HK w' → HS w' A3 Q → Calls Tryd.prog 34 #[.string rb, .int .i64 (m : Int), .int .i64 (n : Int), .slice A3 Q.length c3, .bool true] w' fun e W' =>
        (∃ v, e = .returned (.tuple #[v, .string ⟨(bothR shaF rb.data.toList Q.reverse m n true).2.1.toArray⟩]) ∧ RowS W' w'.heap.size v (sidesR shaF rb.data.toList Q.reverse m n true)) ∧ Below w'.heap.size w' W') := Lib.hid fun w' hk hs => by
      have := sides_main rb.data.toList (by rw [ho2]; omega) Q.reverse A3 c3 m n true w' hk (by rw [List.length_reverse]; omega) (by rw [List.length_reverse]; exact hc3) (by rw [List.reverse_reverse]; exact Hid.out hs) hQr (by omega) (by omega) (by omega) hok2
      rw [List.length_reverse, mk_eta] at this
      exact this
    have hw1 := sidesR_length ra.data.toList P.reverse m n true
    have hw2 := sidesR_length rb.data.toList Q.reverse m n true
    have hp1 : 1 ≤ (sidesR shaF ra.data.toList P.reverse m n true).length := by
      obtain ⟨j, u, v, h, _⟩ := hcol
      have := (List.getElem?_eq_some_iff.1 h).1
      omega
    have hp2 : 1 ≤ (sidesR shaF rb.data.toList Q.reverse m n true).length := by
      obtain ⟨j, u, v, _, h, _⟩ := hcol
      have := (List.getElem?_eq_some_iff.1 h).1
      omega
    have HS1 := Lib.hid (sidesR_small ra.data.toList (by rw [ho1]; omega) P.reverse m n true hPr)
    have HS2 := Lib.hid (sidesR_small rb.data.toList (by rw [ho2]; omega) Q.reverse m n true hQr)
    rw [List.length_reverse] at hw1 hw2
    have HC := Lib.hid hcol
    have hne : (ra.toList == rb.toList) = false := by
      rw [beq_eq_false_iff_ne, ByteArray.toList_eq, ByteArray.toList_eq]
      exact ba_ne ra rb g3
    clear hcol hok1 hok2 hval1 hval2 hf1 hf2 h32 h32' hPr hQr
    generalize sidesR shaF ra.data.toList P.reverse m n true = a at *
    generalize sidesR shaF rb.data.toList Q.reverse m n true = b at *
    generalize bothR shaF ra.data.toList P.reverse m n true = va at *
    generalize bothR shaF rb.data.toList Q.reverse m n true = vb at *
    go_wp2_with fail
    refine (HV1.out _ k3 s3).mono ?_
    rintro e w4 ⟨rfl, b4⟩
    have a4 := a3.step b4
    have k4 := k3.keep b4
    have s4 := s3.keep b4
    have t4 := t3.keep b4
    go_wp2_with fail
    refine (HV2.out _ k4 t4).mono ?_
    rintro e w5 ⟨rfl, b5⟩
    have a5 := a4.step b5
    have k5 := k4.keep b5
    have s5 := s4.keep b5
    have t5 := t4.keep b5
    go_wp2_with fail
    refine (HW1.out _ k5 s5).mono ?_
    rintro e w6 ⟨⟨v6, rfl, hv6⟩, b6⟩
    have a6 := a5.step b6
    have k6 := k5.keep b6
    have t6 := t5.keep b6
    obtain ⟨A6, c6, rfl, hc6, r6, hA6⟩ := hv6.lies
    obtain ⟨g6, rfl⟩ := hA6.addr hp1
    clear hv6
    go_wp2_with fail
    refine (HW2.out _ k6 t6).mono ?_
    rintro e w7 ⟨⟨v7, rfl, hv7⟩, b7⟩
    have a7 := a6.step b7
    have k7 := k6.keep b7
    have r7 := r6.keep b7
    obtain ⟨A7, c7, rfl, hc7, u7, hA7⟩ := hv7.lies
    obtain ⟨g7, rfl⟩ := hA7.addr hp2
    clear hv7
    go_wp2_with fail
    refine (collide_main a b g6 g7 c6 c7 _ k7 r7 u7 (by omega) (by omega) hc6 HS1.out HS2.out HC.out).mono ?_
    rintro e w8 ⟨rfl, b8⟩
    have a8 := a7.step b8
    go_wp2_with fail
    go_ret
    exact ⟨rfl, Hid.out a8⟩
  · generalize verEB ra.data.toList m root.data.toList n P = vb1 at *
    generalize verEB rb.data.toList m root.data.toList n Q = vb2 at *
    go_wp2_with fail
    refine (HV1.out _ k3 s3).mono ?_
    rintro e w4 ⟨rfl, b4⟩
    have a4 := a3.step b4
    have k4 := k3.keep b4
    have t4 := t3.keep b4
    go_wp2_with fail
    refine (HV2.out _ k4 t4).mono ?_
    rintro e w5 ⟨rfl, b5⟩
    have a5 := a4.step b5
    cases vb1 with
    | false =>
      go_wp2_with fail
      go_ret
      exact ⟨rfl, Hid.out a5⟩
    | true =>
      cases vb2 with
      | false =>
        go_wp2_with fail
        go_ret
        exact ⟨rfl, Hid.out a5⟩
      | true =>
        have hxy : ra = rb := by
          by_cases h : ra = rb
          · exact h
          · exact absurd ⟨rfl, rfl, h⟩ hall
        subst hxy
        go_wp2_with fail
        go_ret
        exact ⟨rfl, Hid.out a5⟩
end Go.Proofs.YtinioifhbafngaaDoor
