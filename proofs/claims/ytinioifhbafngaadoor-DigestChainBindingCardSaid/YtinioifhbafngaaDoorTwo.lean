/- The contract of package digest's VerifyExtension: it reports whether the two plain values of the proof are the two roots. Conditions: the table of constants reads as the program lays it; at most 1000 elements, of at most 10^9 bytes. -/
import Derived.Test.YtinioifhbafngaaDoorVal
namespace Go.Proofs.YtinioifhbafngaaDoor
open Go.RowKit

theorem results_tmp3 {fn : Func} {t u v : Tmp} (h : fn.results = #[.tmp t, .tmp u, .tmp v]) (tmps : Array Value) (P : Program) (w : World) :
    (results fn tmps).run P w = .ok (.tuple #[tmps.getD t undef, tmps.getD u undef, tmps.getD v undef]) w := by
  simp [results, h]

/-- What twoValues answers for what the plain values are. -/
def TwoAns (b : Bs × Bs × Bool) (e : Ending) : Prop :=
  ∃ a c : Bs, e = .returned (.tuple #[.string ⟨a.toArray⟩, .string ⟨c.toArray⟩, .bool b.2.2]) ∧ a.length ≤ 1000000000 ∧ c.length ≤ 1000000000 ∧ (b.2.2 = true → a = b.1 ∧ c = b.2.1)

set_option maxRecDepth 100000 in
set_option maxHeartbeats 2000000 in
theorem two_main (old : Bs) (ho : old.length ≤ 1000000000) (r : List Bs) : ∀ (A : Option Addr) (cap m n : Nat) (whole : Bool) (w : World), Konst w → r.length ≤ 1000 → r.length ≤ cap → Strs w A r.reverse → (∀ x ∈ r, x.length ≤ 1000000000) → 1 ≤ m → m ≤ n → n ≤ 9223372036854775807 →
    Calls Tryd.prog 47 #[.string ⟨old.toArray⟩, .int .i64 (m : Int), .int .i64 (n : Int), .slice A r.length cap, .bool whole] w fun e W' => TwoAns (bothR shaF old r m n whole) e ∧ Below w.heap.size w W' := by
  induction r with
  | nil =>
    intro A cap m n whole w _ _ _ _ _ h1 hm hn
    by_cases hw : m = n ∧ whole = true
    · obtain ⟨rfl, rfl⟩ := hw
      have HE : Hid (bothR shaF old [] m m true = (old, old, true)) := Lib.hid (by unfold bothR; rw [if_pos rfl]; rfl)
      show Calls _ _ #[_, _, _, .slice A 0 cap, _] _ _
      go_enter Tryd.func47, Tryd.ntmps47
      go_wp2_with fail
      refine bodyPost_ret (results_tmp3 rfl _ _ _) rfl ?_
      exact ⟨by rw [HE.out]; exact ⟨old, old, rfl, ho, ho, fun _ => ⟨rfl, rfl⟩⟩, Below.refl _ _⟩
    · have HE : Hid (bothR shaF old [] m n whole = ([], [], false)) := Lib.hid (by
        unfold bothR
        by_cases h : m = n
        · rw [if_pos h]
          cases whole with
          | true => exact absurd ⟨h, rfl⟩ hw
          | false => rfl
        · rw [if_neg h])
      by_cases h : m = n
      · subst h
        cases whole with
        | true => exact absurd ⟨rfl, rfl⟩ hw
        | false =>
          clear hw
          show Calls _ _ #[_, _, _, .slice A 0 cap, _] _ _
          go_enter Tryd.func47, Tryd.ntmps47
          go_wp2_with fail
          refine bodyPost_ret (results_tmp3 rfl _ _ _) rfl ?_
          exact ⟨by rw [HE.out]; exact ⟨[], [], rfl, by simp, by simp, fun h => by cases h⟩, Below.refl _ _⟩
      · have q1 : ((m : Int) == (n : Int)) = false := by rw [beq_eq_false_iff_ne]; omega
        clear hw
        show Calls _ _ #[_, _, _, .slice A 0 cap, _] _ _
        go_enter Tryd.func47, Tryd.ntmps47
        go_wp2_with fail
        refine bodyPost_ret (results_tmp3 rfl _ _ _) rfl ?_
        exact ⟨by rw [HE.out]; exact ⟨[], [], rfl, by simp, by simp, fun h => by cases h⟩, Below.refl _ _⟩
  | cons x r ih =>
    intro A cap m n whole w hK h1 h2 hs hx hm1 hm hn
    have HK := Lib.hid hK
    clear hK
    rw [List.reverse_cons] at hs
    rw [List.length_cons] at h1 h2 ⊢
    rcases hs with hs | ⟨b, o, rfl, hs⟩
    · simp at hs
    have q3 : (((r.length : Nat) : Int) + 1 == 0) = false := by rw [beq_eq_false_iff_ne]; omega
    have hs' : StrsAt w b o (r.reverse ++ [x]) := hs
    have HS := Lib.hid (splitLast_calls r.reverse x b o cap w hs' (by rw [List.length_reverse]; exact h2) (by rw [List.length_reverse]; omega))
    rw [List.length_reverse] at HS
    have Hi := Lib.hid hs'.init
    have hxl := Lib.hid (hx x (by simp))
    have hxr : ∀ y ∈ r, y.length ≤ 1000000000 := fun y hy => hx y (by simp [hy])
    by_cases hmn : m = n
    · subst hmn
      cases whole with
      | true =>
        have HE : Hid (bothR shaF old (x :: r) m m true = (old, old, false)) := Lib.hid (by unfold bothR; rw [if_pos rfl]; rfl)
        clear ih hx hs hs' hxr
        go_enter Tryd.func47, Tryd.ntmps47
        go_wp2_with fail
        refine bodyPost_ret (results_tmp3 rfl _ _ _) rfl ?_
        exact ⟨by rw [HE.out]; exact ⟨old, old, rfl, ho, ho, fun h => by cases h⟩, Below.refl _ _⟩
      | false =>
        have HE : Hid ((bothR shaF old (x :: r) m m false).2.2 = (((r.length : Nat) : Int) == 0) ∧ ((bothR shaF old (x :: r) m m false).2.2 = true → x = (bothR shaF old (x :: r) m m false).1 ∧ x = (bothR shaF old (x :: r) m m false).2.1)) := Lib.hid (by
          unfold bothR
          rw [if_pos rfl, if_neg (by simp)]
          by_cases hr : r = []
          · rw [if_pos hr]; subst hr; exact ⟨rfl, fun _ => ⟨rfl, rfl⟩⟩
          · rw [if_neg hr]
            refine ⟨?_, fun h => by cases h⟩
            symm
            rw [beq_eq_false_iff_ne]
            intro h
            exact hr (List.length_eq_zero_iff.1 (by omega)))
        clear ih hx hs hs' hxr
        generalize bothR shaF old (x :: r) m m false = v at *
        go_enter Tryd.func47, Tryd.ntmps47
        go_wp2_with fail
        refine HS.out.mono ?_
        rintro e w1 ⟨rfl, q, rfl⟩
        have b1 : Hld w (w.drewN q) := Lib.hid (below_drewN (Below.refl _ _) q)
        generalize w.drewN q = w1 at *
        go_wp2_with fail
        refine bodyPost_ret (results_tmp3 rfl _ _ _) rfl ?_
        exact ⟨⟨x, x, by rw [HE.out.1]; rfl, hxl.out, hxl.out, HE.out.2⟩, Hid.out b1⟩
    · have hr := left_range n (by omega)
      have Hlt := Lib.hid (fun hk => bothR_le shaF old x r m n whole hmn hk)
      have Hge := Lib.hid (fun hk => bothR_gt shaF old x r m n whole hmn hk)
      obtain ⟨k, hk⟩ : ∃ k, left n = k := ⟨_, rfl⟩
      rw [hk] at hr Hlt Hge
      have Hk := Lib.hid hk
      have q1 : ((m : Int) == (n : Int)) = false := by rw [beq_eq_false_iff_ne]; omega
      by_cases hik : m ≤ k
      · have H1 : Hid (∀ w', Hld w w' → Calls Tryd.prog 47 #[.string ⟨old.toArray⟩, .int .i64 (m : Int), .int .i64 (k : Int), .slice (some ⟨b, o, none⟩) r.length cap, .bool whole] w' fun e W' =>
            TwoAns (bothR shaF old r m k whole) e ∧ Below w'.heap.size w' W') := Lib.hid fun w' h =>
          ih (some ⟨b, o, none⟩) cap m k whole w' (h.konst HK.out) (by omega) (by omega) (h.strsAt Hi.out).strs hxr hm1 hik (by omega)
        have HE := Lib.hid (Hlt.out hik)
        clear ih hx hs hs' hxr hk Hlt Hge
        generalize bothR shaF old (x :: r) m n whole = all at *
        generalize bothR shaF old r m k whole = v at *
        obtain ⟨hr1, hr2, hr3⟩ := hr
        have q4 : (m : Int) ≤ (k : Int) := by omega
        go_enter Tryd.func47, Tryd.ntmps47
        go_wp2_with fail
        refine HS.out.mono ?_
        rintro e w1 ⟨rfl, q, rfl⟩
        have b1 : Hld w (w.drewN q) := Lib.hid (below_drewN (Below.refl _ _) q)
        generalize w.drewN q = w1 at *
        go_wp2_with fail
        refine (firstPart_calls n _ (by omega) hn).mono ?_
        rw [Hk.out]
        rintro e w' ⟨rfl, rfl⟩
        go_wp2_with fail
        refine (H1.out _ b1).mono ?_
        rintro e w2 ⟨⟨a, c, rfl, ha, hc, hac⟩, b2⟩
        have b3 := b1.step b2
        have Hac := Lib.hid hac
        clear hac
        go_wp2_with fail
        refine (Node_calls _ _ _ (b3.konst HK.out) (by rw [mk_size]; omega) (by rw [mk_size]; have := hxl.out; omega)).mono ?_
        rintro e w4 ⟨rfl, b4⟩
        have b5 := b3.step b4
        go_wp2_with fail
        refine bodyPost_ret (results_tmp3 rfl _ _ _) rfl ?_
        refine ⟨?_, Hid.out b5⟩
        rw [HE.out]
        exact ⟨a, nodeF shaF c x, rfl, ha, by rw [show (nodeF shaF c x).length = 32 from shaF_length _]; omega, fun h => ⟨(Hac.out h).1, by rw [(Hac.out h).2]⟩⟩
      · have H2 : Hid (∀ w', Hld w w' → Calls Tryd.prog 47 #[.string ⟨old.toArray⟩, .int .i64 ((m : Int) - (k : Int)), .int .i64 ((n : Int) - (k : Int)), .slice (some ⟨b, o, none⟩) r.length cap, .bool false] w' fun e W' =>
            TwoAns (bothR shaF old r (m - k) (n - k) false) e ∧ Below w'.heap.size w' W') := Lib.hid fun w' h => by
          have e1 : ((n - k : Nat) : Int) = (n : Int) - (k : Int) := by omega
          have e2 : ((m - k : Nat) : Int) = (m : Int) - (k : Int) := by omega
          rw [← e1, ← e2]
          exact ih (some ⟨b, o, none⟩) cap (m - k) (n - k) false w' (h.konst HK.out) (by omega) (by omega) (h.strsAt Hi.out).strs hxr (by omega) (by omega) (by omega)
        have HE := Lib.hid (Hge.out hik)
        clear ih hx hs hs' hxr hk Hlt Hge
        generalize bothR shaF old (x :: r) m n whole = all at *
        generalize bothR shaF old r (m - k) (n - k) false = v at *
        obtain ⟨hr1, hr2, hr3⟩ := hr
        have q4 : (k : Int) < (m : Int) := by omega
        go_enter Tryd.func47, Tryd.ntmps47
        go_wp2_with fail
        refine HS.out.mono ?_
        rintro e w1 ⟨rfl, q, rfl⟩
        have b1 : Hld w (w.drewN q) := Lib.hid (below_drewN (Below.refl _ _) q)
        generalize w.drewN q = w1 at *
        go_wp2_with fail
        refine (firstPart_calls n _ (by omega) hn).mono ?_
        rw [Hk.out]
        rintro e w' ⟨rfl, rfl⟩
        go_wp2_with fail
        refine (H2.out _ b1).mono ?_
        rintro e w2 ⟨⟨a, c, rfl, ha, hc, hac⟩, b2⟩
        have b3 := b1.step b2
        have Hac := Lib.hid hac
        clear hac
        go_wp2_with fail
        refine (Node_calls _ _ _ (b3.konst HK.out) (by rw [mk_size]; have := hxl.out; omega) (by rw [mk_size]; omega)).mono ?_
        rintro e w4 ⟨rfl, b4⟩
        have b5 := b3.step b4
        go_wp2_with fail
        refine (Node_calls _ _ _ (b5.konst HK.out) (by rw [mk_size]; have := hxl.out; omega) (by rw [mk_size]; omega)).mono ?_
        rintro e w6 ⟨rfl, b6⟩
        have b7 := b5.step b6
        go_wp2_with fail
        refine bodyPost_ret (results_tmp3 rfl _ _ _) rfl ?_
        refine ⟨?_, Hid.out b7⟩
        rw [HE.out]
        exact ⟨nodeF shaF x a, nodeF shaF x c, rfl, by rw [show (nodeF shaF x a).length = 32 from shaF_length _]; omega, by rw [show (nodeF shaF x c).length = 32 from shaF_length _]; omega, fun h => ⟨by rw [(Hac.out h).1], by rw [(Hac.out h).2]⟩⟩
/-- What VerifyExtension answers. -/
def verEB (old : Bs) (m : Int) (root : Bs) (n : Int) (p : List Bs) : Bool :=
  decide (0 ≤ m ∧ m ≤ n ∧ old.length = 32 ∧ root.length = 32 ∧ (∀ x ∈ p, x.length = 32) ∧
    (if m = 0 then p = [] ∧ old = shaF [] else (bothR shaF old p.reverse m.toNat n.toNat true).2.2 = true ∧ (bothR shaF old p.reverse m.toNat n.toNat true).1 = old ∧ (bothR shaF old p.reverse m.toNat n.toNat true).2.1 = root))
theorem bs_beq2 (y : ByteArray) (v : Bs) : (y.toList == v) = decide (y.data.toList = v) := by
  rw [ByteArray.toList_eq, Bool.eq_iff_iff]
  simp
theorem StrsAt.two (w : World) (s t : ByteArray) : StrsAt (w.alloc (.cells #[.string s, .string t] 9)) w.heap.size 0 [s.data.toList, t.data.toList] := fun i hi => by
  rw [cell_of_row _ _ _ _ _ _ (heap_alloc_new w _)]
  match i, hi with
  | 0, _ => simp
  | 1, _ => simp

set_option maxRecDepth 100000 in
set_option maxHeartbeats 4000000 in
theorem VerifyExtension_calls (old : ByteArray) (m : Int) (root : ByteArray) (n : Int) (p : List Bs) (A : Option Addr) (cap : Nat) (w : World) (hK : Konst w) (hn : n ≤ 9223372036854775807) (hp : p.length ≤ 1000) (hc : p.length ≤ cap) (hs : Strs w A p)
    (hx : ∀ x ∈ p, x.length ≤ 1000000000) (ho : old.size ≤ 9223372036854775807) (hr : root.size ≤ 9223372036854775807) :
    Calls Tryd.prog 30 #[.string old, .int .i64 m, .string root, .int .i64 n, .slice A p.length cap] w fun e W' => e = .returned (.bool (verEB old.data.toList m root.data.toList n p)) ∧ Below w.heap.size w W' := by
  have HK := Lib.hid hK
  clear hK
  by_cases h0 : m < 0
  · have HE : Hid (verEB old.data.toList m root.data.toList n p = false) := Lib.hid (by unfold verEB; rw [decide_eq_false_iff_not]; intro h; omega)
    generalize verEB old.data.toList m root.data.toList n p = v at *
    clear hs hx
    generalize p.length = l at *
    go_enter Tryd.func30, Tryd.ntmps30
    go_wp2_with fail
    go_ret
    exact ⟨by rw [HE.out]; rfl, Below.refl _ _⟩
  by_cases h1 : n < m
  · have HE : Hid (verEB old.data.toList m root.data.toList n p = false) := Lib.hid (by unfold verEB; rw [decide_eq_false_iff_not]; intro h; omega)
    generalize verEB old.data.toList m root.data.toList n p = v at *
    clear hs hx
    generalize p.length = l at *
    have h2 : 0 ≤ m := by omega
    clear h0
    go_enter Tryd.func30, Tryd.ntmps30
    go_wp2_with fail
    go_ret
    exact ⟨by rw [HE.out]; rfl, Below.refl _ _⟩
  have h2 : 0 ≤ m := by omega
  have h3 : m ≤ n := by omega
  clear h0 h1
  have hb0 : Hld w (w.alloc (.cells #[.string old, .string root] 9)) := (Hld.refl w).alloc _
  have HO : Hid (Calls Tryd.prog 45 #[.slice (some ⟨w.heap.size, 0, none⟩) 2 2] (w.alloc (.cells #[.string old, .string root] 9)) fun e w' =>
      e = .returned (.bool (decide (old.data.toList.length = 32 ∧ root.data.toList.length = 32))) ∧ w.alloc (.cells #[.string old, .string root] 9) = w') := Lib.hid (by
    have := areDigests_main [old.data.toList, root.data.toList] w.heap.size 0 2 _ (StrsAt.two w old root) (by simp) (by
      intro x hx
      have hx2 : x = old.data.toList ∨ x = root.data.toList := by simpa using hx
      rcases hx2 with rfl | rfl
      · rw [data_length]; exact ho
      · rw [data_length]; exact hr)
    simpa using this)
  by_cases h32 : old.data.toList.length = 32 ∧ root.data.toList.length = 32
  · rw [decide_eq_true h32] at HO
    have HA := Lib.hid (areDigests_calls p A cap _ (hb0.strs hs) (by omega) (fun x h => by have := hx x h; omega))
    by_cases hall : ∀ x ∈ p, x.length = 32
    · rw [decide_eq_true hall] at HA
      by_cases hm0 : m = 0
      · subst hm0
        have HE : Hid (verEB old.data.toList 0 root.data.toList n p = ((((p.length : Nat) : Int) == 0) && decide (old.data.toList = shaF []))) := Lib.hid (by
          unfold verEB
          rw [Bool.eq_iff_iff, decide_eq_true_iff, if_pos rfl, Bool.and_eq_true, decide_eq_true_iff, beq_iff_eq]
          constructor
          · rintro ⟨_, _, _, _, _, h, h'⟩
            exact ⟨by rw [h]; rfl, h'⟩
          · rintro ⟨h, h'⟩
            exact ⟨h2, h3, h32.1, h32.2, hall, List.length_eq_zero_iff.1 (by omega), h'⟩)
        generalize verEB old.data.toList 0 root.data.toList n p = v at *
        clear hs hx hall h32
        generalize p.length = l at *
        by_cases hl : l = 0
        · subst hl
          have HR := Lib.hid (root_empty none 0 _ (hb0.konst HK.out))
          go_enter Tryd.func30, Tryd.ntmps30
          go_wp2_with fail
          refine HO.out.mono ?_
          rintro e w1 ⟨rfl, rfl⟩
          go_wp2_with fail
          refine HA.out.mono ?_
          rintro e w1 ⟨rfl, rfl⟩
          go_wp2_with fail
          refine HR.out.mono ?_
          rintro e w2 ⟨rfl, b2⟩
          have b3 := hb0.step b2
          go_wp2_with fail
          go_ret
          refine ⟨?_, Hid.out b3⟩
          show Ending.returned (.bool (old.toList == shaF [])) = _
          rw [HE.out, bs_beq2]
          rfl
        · have q1 : ((l : Int) == 0) = false := by rw [beq_eq_false_iff_ne]; omega
          go_enter Tryd.func30, Tryd.ntmps30
          go_wp2_with fail
          refine HO.out.mono ?_
          rintro e w1 ⟨rfl, rfl⟩
          go_wp2_with fail
          refine HA.out.mono ?_
          rintro e w1 ⟨rfl, rfl⟩
          go_wp2_with fail
          go_ret
          exact ⟨by rw [HE.out, q1]; rfl, Hid.out hb0⟩
      · have HT : Hid (Calls Tryd.prog 47 #[.string old, .int .i64 m, .int .i64 n, .slice A p.length cap, .bool true] (w.alloc (.cells #[.string old, .string root] 9)) fun e W' =>
            TwoAns (bothR shaF old.data.toList p.reverse m.toNat n.toNat true) e ∧ Below (w.alloc (.cells #[.string old, .string root] 9)).heap.size (w.alloc (.cells #[.string old, .string root] 9)) W') := Lib.hid (by
          have := two_main old.data.toList (by rw [h32.1]; omega) p.reverse A cap m.toNat n.toNat true _ (hb0.konst HK.out) (by rw [List.length_reverse]; exact hp) (by rw [List.length_reverse]; exact hc) (by rw [List.reverse_reverse]; exact hb0.strs hs) (fun x hm => hx x (by simpa using hm)) (by omega) (by omega) (by omega)
          rw [List.length_reverse, mk_eta, Int.toNat_of_nonneg h2, Int.toNat_of_nonneg (show 0 ≤ n by omega)] at this
          exact this)
        have HE : Hid (verEB old.data.toList m root.data.toList n p = ((bothR shaF old.data.toList p.reverse m.toNat n.toNat true).2.2 && (decide ((bothR shaF old.data.toList p.reverse m.toNat n.toNat true).1 = old.data.toList) && decide ((bothR shaF old.data.toList p.reverse m.toNat n.toNat true).2.1 = root.data.toList)))) := Lib.hid (by
          unfold verEB
          rw [Bool.eq_iff_iff, decide_eq_true_iff, if_neg hm0, Bool.and_eq_true, Bool.and_eq_true, decide_eq_true_iff, decide_eq_true_iff]
          exact ⟨fun h => h.2.2.2.2.2, fun h => ⟨h2, h3, h32.1, h32.2, hall, h⟩⟩)
        generalize bothR shaF old.data.toList p.reverse m.toNat n.toNat true = v at *
        generalize verEB old.data.toList m root.data.toList n p = vv at *
        obtain ⟨v1, v2, v3⟩ := v
        clear hs hx hall h32
        generalize p.length = l at *
        have q0 : (m == 0) = false := by rw [beq_eq_false_iff_ne]; exact hm0
        clear hm0
        go_enter Tryd.func30, Tryd.ntmps30
        go_wp2_with fail
        refine HO.out.mono ?_
        rintro e w1 ⟨rfl, rfl⟩
        go_wp2_with fail
        refine HA.out.mono ?_
        rintro e w1 ⟨rfl, rfl⟩
        go_wp2_with fail
        refine HT.out.mono ?_
        rintro e w2 ⟨⟨a, c, rfl, _, _, hac⟩, b2⟩
        have b3 := hb0.step b2
        have Hac := Lib.hid hac
        clear hac
        cases v3 with
        | false =>
          go_wp2_with fail
          go_ret
          exact ⟨by rw [HE.out]; rfl, Hid.out b3⟩
        | true =>
          obtain ⟨rfl, rfl⟩ := Hac.out rfl
          by_cases he : a = old.data.toList
          · have hb : (a == old.toList) = true := by rw [bs_beq]; exact decide_eq_true he
            go_wp2_with fail
            go_ret
            refine ⟨?_, Hid.out b3⟩
            show Ending.returned (.bool (c == root.toList)) = _
            rw [HE.out, bs_beq, decide_eq_true he]
            rfl
          · have hb : (a == old.toList) = false := by rw [bs_beq]; exact decide_eq_false he
            go_wp2_with fail
            go_ret
            exact ⟨by rw [HE.out, decide_eq_false he]; rfl, Hid.out b3⟩
    · rw [decide_eq_false hall] at HA
      have HE : Hid (verEB old.data.toList m root.data.toList n p = false) := Lib.hid (by unfold verEB; rw [decide_eq_false_iff_not]; exact fun h => hall h.2.2.2.2.1)
      generalize verEB old.data.toList m root.data.toList n p = v at *
      clear hs hx hall h32
      generalize p.length = l at *
      go_enter Tryd.func30, Tryd.ntmps30
      go_wp2_with fail
      refine HO.out.mono ?_
      rintro e w1 ⟨rfl, rfl⟩
      go_wp2_with fail
      refine HA.out.mono ?_
      rintro e w1 ⟨rfl, rfl⟩
      go_wp2_with fail
      go_ret
      exact ⟨by rw [HE.out]; rfl, Hid.out hb0⟩
  · rw [decide_eq_false h32] at HO
    have HE : Hid (verEB old.data.toList m root.data.toList n p = false) := Lib.hid (by unfold verEB; rw [decide_eq_false_iff_not]; exact fun h => h32 ⟨h.2.2.1, h.2.2.2.1⟩)
    generalize verEB old.data.toList m root.data.toList n p = v at *
    clear hs hx h32
    generalize p.length = l at *
    go_enter Tryd.func30, Tryd.ntmps30
    go_wp2_with fail
    refine HO.out.mono ?_
    rintro e w1 ⟨rfl, rfl⟩
    go_wp2_with fail
    go_ret
    exact ⟨by rw [HE.out]; rfl, Hid.out hb0⟩
end Go.Proofs.YtinioifhbafngaaDoor
