/- The walk of DigestBinding: for every root, numbers, two entries and two proofs it returns true, and nothing that was there has changed. Condition: the table of constants reads as the program lays it. -/
import Derived.Test.YtinioifhbafngaaDoorSides
import Derived.Test.YtinioifhbafngaaDoorMatW
namespace Go.Proofs.YtinioifhbafngaaDoor
open Go.RowKit

theorem wayR_small (s : Bs) (hs : s.length ≤ 60) (r : List Bs) : ∀ n i, (∀ x ∈ r, x.length ≤ 60) → ∀ y ∈ wayR shaF r n i s, y.length ≤ 1000000000 := by
  induction r with
  | nil =>
    intro n i _ y hy
    have : y = 0 :: s := by simpa [wayR] using hy
    rw [this, List.length_cons]; omega
  | cons x r ih =>
    intro n i hr y hy
    have hx := hr x (by simp)
    have hr' : ∀ z ∈ r, z.length ≤ 60 := fun z hz => hr z (by simp [hz])
    unfold wayR at hy
    split at hy
    · have : y = 0 :: s := by simpa using hy
      rw [this, List.length_cons]; omega
    · split at hy
      · rcases List.mem_cons.1 hy with h | h
        · rw [h, List.length_cons, List.length_append]; have := valR_length s r (left n) i; omega
        · exact ih _ _ hr' y h
      · rcases List.mem_cons.1 hy with h | h
        · rw [h, List.length_cons, List.length_append]; have := valR_length s r (n - left n) (i - left n); omega
        · exact ih _ _ hr' y h
theorem wayR_pos (s : Bs) (r : List Bs) (n i : Nat) : 1 ≤ (wayR shaF r n i s).length := by
  cases r with
  | nil => simp [wayR]
  | cons x r =>
    unfold wayR
    split
    · simp
    · split <;> simp
theorem Lies.addr {A : Option Addr} {c n : Nat} (h : Lies A c n) (hn : 1 ≤ n) : ∃ g, A = some ⟨g, 0, none⟩ := by
  rcases h with ⟨_, _, h⟩ | h
  · omega
  · exact h
theorem ba_ne (x y : ByteArray) (h : x ≠ y) : x.data.toList ≠ y.data.toList := fun e => h (ByteArray.ext (Array.ext' e))

set_option maxRecDepth 100000 in
set_option maxHeartbeats 4000000 in
theorem bind_walk (root : ByteArray) (n i : Int) (s : ByteArray) (Ap : Option Addr) (p : List Bs) (cp : Nat) (t : ByteArray) (Aq : Option Addr) (q : List Bs) (cq : Nat) (w : World) (hK : Konst w) (_hr : root.size ≤ 9223372036854775807)
    (_n1 : -9223372036854775808 ≤ n) (n2 : n ≤ 9223372036854775807) (_i1 : -9223372036854775808 ≤ i) (_i2 : i ≤ 9223372036854775807) (hsz : s.size ≤ 9223372036854775807)
    (_hcp : p.length ≤ cp) (hlp : p.length ≤ 9223372036854775807) (hsp : Strs w Ap p) (hxp : ∀ x ∈ p, x.length ≤ 9223372036854775807) (htz : t.size ≤ 9223372036854775807)
    (_hcq : q.length ≤ cq) (hlq : q.length ≤ 9223372036854775807) (hsq : Strs w Aq q) (hxq : ∀ x ∈ q, x.length ≤ 9223372036854775807) :
    Calls Tryd.prog 7 #[.string root, .int .i64 n, .int .i64 i, .string s, .slice Ap p.length cp, .string t, .slice Aq q.length cq] w fun e W' => e = .returned (.bool true) ∧ Below w.heap.size w W' := by
  have k0 : HK w := Lib.hid hK
  have s0 : HS w Ap p := Lib.hid hsp
  have t0 : HS w Aq q := Lib.hid hsq
  have Hxp := Lib.hid hxp
  have Hxq := Lib.hid hxq
  obtain ⟨N, hN⟩ : ∃ N : Nat, min (s.size : Int) 60 = (N : Int) := ⟨min s.size 60, by omega⟩
  obtain ⟨M, hM⟩ : ∃ M : Nat, min (t.size : Int) 60 = (M : Int) := ⟨min t.size 60, by omega⟩
  have hcutN := cut_size s N
  have hcutM := cut_size t M
  have hminN : ∀ ts ty W, (Builtin.min_ ts ty #[.int .i64 (s.size : Int), .int .i64 60]).run Tryd.prog W = .ok (.int .i64 (N : Int)) W := fun ts ty W => by rw [run_min2, hN]
  have hminM : ∀ ts ty W, (Builtin.min_ ts ty #[.int .i64 (t.size : Int), .int .i64 60]).run Tryd.prog W = .ok (.int .i64 (M : Int)) W := fun ts ty W => by rw [run_min2, hM]
  have n1 : (N : Int) ≤ (s.size : Int) := by omega
  have m1 : (M : Int) ≤ (t.size : Int) := by omega
  have n3 : N ≤ s.size := by omega
  have m3 : M ≤ t.size := by omega
  have hxz : (s.extract 0 N).size ≤ 60 := by omega
  have hyz : (t.extract 0 M).size ≤ 60 := by omega
  clear hK hsp hsq hxp hxq hN hM hcutN hcutM
  generalize hx : s.extract 0 N = x at *
  generalize hy : t.extract 0 M = y at *
  go_enter Tryd.func7, Tryd.ntmps7
  go_wp2_with fail
  refine (sane_calls _ (Hid.out k0)).mono ?_
  rintro e w1 ⟨rfl, b1⟩
  have a1 := (Hld.refl w).step b1
  have k1 := k0.keep b1
  have s1 := s0.keep b1
  have t1 := t0.keep b1
  go_wp2_with fail
  refine (few_calls p Ap cp 70 _ (by omega) (Hid.out s1) Hxp.out hlp).mono ?_
  rintro e w2 ⟨⟨v2, rfl, hv2⟩, b2⟩
  have a2 := a1.step b2
  have k2 := k1.keep b2
  have t2 := t1.keep b2
  have hP := fewL_length p 70
  have HP60 := Lib.hid (fewL_60 p 70)
  generalize fewL p 70 = P at *
  obtain ⟨A2, c2, rfl, hc2, s2, _⟩ := hv2.lies
  clear hv2 s0 s1 t0 t1
  go_wp2_with fail
  refine (few_calls q Aq cq 70 _ (by omega) (Hid.out t2) Hxq.out hlq).mono ?_
  rintro e w3 ⟨⟨v3, rfl, hv3⟩, b3⟩
  have a3 := a2.step b3
  have k3 := k2.keep b3
  have s3 := s2.keep b3
  have hQ := fewL_length q 70
  have HQ60 := Lib.hid (fewL_60 q 70)
  generalize fewL q 70 = Q at *
  obtain ⟨A3, c3, rfl, hc3, t3, _⟩ := hv3.lies
  clear hv3 s2 t2
  have HV1 : Hid (∀ w', HK w' → HS w' A2 P → Calls Tryd.prog 29 #[.string root, .int .i64 n, .int .i64 i, .string x, .slice A2 P.length c2] w' fun e W' => e = .returned (.bool (verB root.data.toList n i x.data.toList P)) ∧ Below w'.heap.size w' W') :=
    Lib.hid fun w' hk hs => Verify_calls root n i x P A2 c2 w' (Hid.out hk) n2 (by omega) hc2 (Hid.out hs) (fun z hz => by have := HP60.out z hz; omega) (by omega)
  have HV2 : Hid (∀ w', HK w' → HS w' A3 Q → Calls Tryd.prog 29 #[.string root, .int .i64 n, .int .i64 i, .string y, .slice A3 Q.length c3] w' fun e W' => e = .returned (.bool (verB root.data.toList n i y.data.toList Q)) ∧ Below w'.heap.size w' W') :=
    Lib.hid fun w' hk hs => Verify_calls root n i y Q A3 c3 w' (Hid.out hk) n2 (by omega) hc3 (Hid.out hs) (fun z hz => by have := HQ60.out z hz; omega) (by omega)
  by_cases hall : verB root.data.toList n i x.data.toList P = true ∧ verB root.data.toList n i y.data.toList Q = true ∧ x ≠ y
  · obtain ⟨g1, g2, g3⟩ := hall
    rw [g1] at HV1
    rw [g2] at HV2
    unfold verB at g1 g2
    rw [decide_eq_true_iff] at g1 g2
    obtain ⟨i0, hin, h32, hok1, hval1⟩ := g1
    obtain ⟨_, _, h32', hok2, hval2⟩ := g2
    obtain ⟨i, rfl⟩ := Int.eq_ofNat_of_zero_le i0
    obtain ⟨n, rfl⟩ := Int.eq_ofNat_of_zero_le (show 0 ≤ n by omega)
    rw [Int.toNat_natCast, Int.toNat_natCast] at hok1 hval1 hok2 hval2
    have hPr : ∀ z ∈ P.reverse, z.length ≤ 60 := fun z hz => HP60.out z (by simpa using hz)
    have hQr : ∀ z ∈ Q.reverse, z.length ≤ 60 := fun z hz => HQ60.out z (by simpa using hz)
    have hcol : Collide shaF (wayR shaF P.reverse n i x.data.toList) (wayR shaF Q.reverse n i y.data.toList) :=
      binding shaF shaF_length P.reverse Q.reverse n i x.data.toList y.data.toList (by omega) (fun z hz => h32 z (by simpa using hz)) (fun z hz => h32' z (by simpa using hz)) hok1 hok2 (hval1.trans hval2.symm) (ba_ne x y g3)
    have HW1 : Hid (∀ w', HK w' → HS w' A2 P → Calls Tryd.prog 31 #[.int .i64 (n : Int), .int .i64 (i : Int), .string x, .slice A2 P.length c2] w' fun e W' =>
        (∃ v, e = .returned (.tuple #[v, .string ⟨(valR shaF P.reverse n i x.data.toList).1.toArray⟩]) ∧ RowS W' w'.heap.size v (wayR shaF P.reverse n i x.data.toList)) ∧ Below w'.heap.size w' W') := Lib.hid fun w' hk hs => by
      have := way_main x.data.toList (by rw [data_length]; exact hxz) P.reverse A2 c2 n i w' hk (by rw [List.length_reverse]; omega) (by rw [List.length_reverse]; exact hc2) (by rw [List.reverse_reverse]; exact Hid.out hs) hPr (by omega) (by omega) hok1
      rw [List.length_reverse, mk_eta] at this
      exact this
    have HW2 : Hid (∀ w', HK w' → HS w' A3 Q → Calls Tryd.prog 31 #[.int .i64 (n : Int), .int .i64 (i : Int), .string y, .slice A3 Q.length c3] w' fun e W' =>
        (∃ v, e = .returned (.tuple #[v, .string ⟨(valR shaF Q.reverse n i y.data.toList).1.toArray⟩]) ∧ RowS W' w'.heap.size v (wayR shaF Q.reverse n i y.data.toList)) ∧ Below w'.heap.size w' W') := Lib.hid fun w' hk hs => by
      have := way_main y.data.toList (by rw [data_length]; exact hyz) Q.reverse A3 c3 n i w' hk (by rw [List.length_reverse]; omega) (by rw [List.length_reverse]; exact hc3) (by rw [List.reverse_reverse]; exact Hid.out hs) hQr (by omega) (by omega) hok2
      rw [List.length_reverse, mk_eta] at this
      exact this
    have hw1 := wayR_length x.data.toList P.reverse n i
    have hw2 := wayR_length y.data.toList Q.reverse n i
    have hp1 := wayR_pos x.data.toList P.reverse n i
    have hp2 := wayR_pos y.data.toList Q.reverse n i
    have HS1 := Lib.hid (wayR_small x.data.toList (by rw [data_length]; exact hxz) P.reverse n i hPr)
    have HS2 := Lib.hid (wayR_small y.data.toList (by rw [data_length]; exact hyz) Q.reverse n i hQr)
    rw [List.length_reverse] at hw1 hw2
    have HC := Lib.hid hcol
    have hne : (x.toList == y.toList) = false := by
      rw [beq_eq_false_iff_ne, ByteArray.toList_eq, ByteArray.toList_eq]
      exact ba_ne x y g3
    clear hcol hok1 hok2 hval1 hval2 h32 h32' hPr hQr
    generalize wayR shaF P.reverse n i x.data.toList = a at *
    generalize wayR shaF Q.reverse n i y.data.toList = b at *
    generalize valR shaF P.reverse n i x.data.toList = va at *
    generalize valR shaF Q.reverse n i y.data.toList = vb at *
    go_wp2_with fail
    refine (HV1.out _ k3 s3).mono ?_
    rintro e w4 ⟨rfl, b4⟩
    have a4 := a3.step b4
    have k4 := k3.keep b4
    have s4 := s3.keep b4
    have t4 := t3.keep b4
    go_wp2_with fail
    refine (HV2.out _ k4 t4).mono ?_
    rintro e w5 ⟨rfl, b5⟩
    have a5 := a4.step b5
    have k5 := k4.keep b5
    have s5 := s4.keep b5
    have t5 := t4.keep b5
    go_wp2_with fail
    refine (HW1.out _ k5 s5).mono ?_
    rintro e w6 ⟨⟨v6, rfl, hv6⟩, b6⟩
    have a6 := a5.step b6
    have k6 := k5.keep b6
    have t6 := t5.keep b6
    obtain ⟨A6, c6, rfl, hc6, r6, hA6⟩ := hv6.lies
    obtain ⟨g6, rfl⟩ := hA6.addr hp1
    clear hv6
    go_wp2_with fail
    refine (HW2.out _ k6 t6).mono ?_
    rintro e w7 ⟨⟨v7, rfl, hv7⟩, b7⟩
    have a7 := a6.step b7
    have k7 := k6.keep b7
    have r7 := r6.keep b7
    obtain ⟨A7, c7, rfl, hc7, u7, hA7⟩ := hv7.lies
    obtain ⟨g7, rfl⟩ := hA7.addr hp2
    clear hv7
    go_wp2_with fail
    refine (collide_main a b g6 g7 c6 c7 _ k7 r7 u7 (by omega) (by omega) hc6 HS1.out HS2.out HC.out).mono ?_
    rintro e w8 ⟨rfl, b8⟩
    have a8 := a7.step b8
    go_wp2_with fail
    go_ret
    exact ⟨rfl, Hid.out a8⟩
  · generalize verB root.data.toList n i x.data.toList P = vb1 at *
    generalize verB root.data.toList n i y.data.toList Q = vb2 at *
    go_wp2_with fail
    refine (HV1.out _ k3 s3).mono ?_
    rintro e w4 ⟨rfl, b4⟩
    have a4 := a3.step b4
    have k4 := k3.keep b4
    have t4 := t3.keep b4
    go_wp2_with fail
    refine (HV2.out _ k4 t4).mono ?_
    rintro e w5 ⟨rfl, b5⟩
    have a5 := a4.step b5
    cases vb1 with
    | false =>
      go_wp2_with fail
      go_ret
      exact ⟨rfl, Hid.out a5⟩
    | true =>
      cases vb2 with
      | false =>
        go_wp2_with fail
        go_ret
        exact ⟨rfl, Hid.out a5⟩
      | true =>
        have hxy : x = y := by
          by_cases h : x = y
          · exact h
          · exact absurd ⟨rfl, rfl, h⟩ hall
        subst hxy
        go_wp2_with fail
        go_ret
        exact ⟨rfl, Hid.out a5⟩
end Go.Proofs.YtinioifhbafngaaDoor
