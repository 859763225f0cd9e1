/- The contract of package digest's Verify: it reports whether the plain value of the proof is the root. Conditions: the table of constants reads as the program lays it; at most 1000 elements, of at most 10^9 bytes. -/
import Derived.Test.YtinioifhbafngaaDoorPath
namespace Go.Proofs.YtinioifhbafngaaDoor
open Go.RowKit

theorem StrsAt.init {w : World} {b o : Nat} {l : List Bs} {x : Bs} (h : StrsAt w b o (l ++ [x])) : StrsAt w b o l := fun i hi => by
  have := h i (by simp; omega)
  simpa [List.getD_eq_getElem?_getD, List.getElem?_append_left hi] using this

theorem areDigests_calls (l : List Bs) (A : Option Addr) (cap : Nat) (w : World) (hs : Strs w A l) (hl : l.length ≤ 1000000) (hx : ∀ x ∈ l, x.length ≤ 9223372036854775807) :
    Calls Tryd.prog 45 #[.slice A l.length cap] w fun e w' => e = .returned (.bool (decide (∀ x ∈ l, x.length = 32))) ∧ w = w' := by
  rcases hs with rfl | ⟨b, o, rfl, h⟩
  · show Calls _ _ #[.slice A 0 cap] _ _
    go_enter Tryd.func45, Tryd.ntmps45
    go_wp2_with fail
    go_loop [7] (fun iv => iv = .int .i64 0) (fun _ => 0)
    case atStart => exact rfl
    case round =>
      obtain rfl := hrel
      go_wp2_with fail
      go_ret
      exact ⟨rfl, rfl⟩
  · exact areDigests_main l b o cap w h hl hx

theorem valR_length (s : Bs) (r : List Bs) (n i : Nat) : (valR shaF r n i s).1.length ≤ 32 := by
  cases r with
  | nil =>
    unfold valR
    by_cases h1 : n = 1
    · rw [if_pos h1]; exact Nat.le_of_eq (shaF_length _)
    · rw [if_neg h1]; simp
  | cons x r =>
    unfold valR
    by_cases h1 : n = 1
    · rw [if_pos h1]; exact Nat.le_of_eq (shaF_length _)
    · rw [if_neg h1]
      by_cases h2 : i < left n
      · rw [if_pos h2]; exact Nat.le_of_eq (shaF_length _)
      · rw [if_neg h2]; exact Nat.le_of_eq (shaF_length _)

set_option maxRecDepth 100000 in
set_option maxHeartbeats 2000000 in
theorem value_main (s : Bs) (r : List Bs) : ∀ (A : Option Addr) (cap n i : Nat) (w : World), Konst w → r.length ≤ 1000 → r.length ≤ cap → Strs w A r.reverse → (∀ x ∈ r, x.length ≤ 1000000000) → i < n → n ≤ 9223372036854775807 →
    Calls Tryd.prog 46 #[.int .i64 (n : Int), .int .i64 (i : Int), .string ⟨(leafF shaF s).toArray⟩, .slice A r.length cap] w fun e W' =>
      e = .returned (.tuple #[.string ⟨(valR shaF r n i s).1.toArray⟩, .bool (valR shaF r n i s).2]) ∧ Below w.heap.size w W' := by
  induction r with
  | nil =>
    intro A cap n i w _ _ _ _ _ hi hn
    by_cases h1 : n = 1
    · subst h1
      have HE : Hid (valR shaF [] 1 i s = (leafF shaF s, true)) := Lib.hid rfl
      show Calls _ _ #[_, _, _, .slice A 0 cap] _ _
      go_enter Tryd.func46, Tryd.ntmps46
      go_wp2_with fail
      refine bodyPost_ret (results_tmp2 rfl _ _ _) rfl ?_
      exact ⟨by rw [HE.out]; rfl, Below.refl _ _⟩
    · have HE : Hid (valR shaF [] n i s = ([], false)) := Lib.hid (by unfold valR; rw [if_neg h1])
      have q1 : ((n : Int) == 1) = false := by rw [beq_eq_false_iff_ne]; omega
      show Calls _ _ #[_, _, _, .slice A 0 cap] _ _
      go_enter Tryd.func46, Tryd.ntmps46
      go_wp2_with fail
      refine bodyPost_ret (results_tmp2 rfl _ _ _) rfl ?_
      exact ⟨by rw [HE.out]; rfl, Below.refl _ _⟩
  | cons x r ih =>
    intro A cap n i w hK h1 h2 hs hx hi hn
    have HK := Lib.hid hK
    clear hK
    rw [List.reverse_cons] at hs
    rw [List.length_cons] at h1 h2 ⊢
    rcases hs with hs | ⟨b, o, rfl, hs⟩
    · simp at hs
    by_cases hn1 : n = 1
    · subst hn1
      have HE : Hid (valR shaF (x :: r) 1 i s = (leafF shaF s, false)) := Lib.hid (by unfold valR; rw [if_pos rfl])
      clear ih hx hs
      have q3 : (((r.length : Nat) : Int) + 1 == 0) = false := by rw [beq_eq_false_iff_ne]; omega
      go_enter Tryd.func46, Tryd.ntmps46
      go_wp2_with fail
      refine bodyPost_ret (results_tmp2 rfl _ _ _) rfl ?_
      exact ⟨by rw [HE.out]; rfl, Below.refl _ _⟩
    · have hs' : StrsAt w b o (r.reverse ++ [x]) := hs
      have HS := Lib.hid (splitLast_calls r.reverse x b o cap w hs' (by rw [List.length_reverse]; exact h2) (by rw [List.length_reverse]; omega))
      rw [List.length_reverse] at HS
      have Hi := Lib.hid hs'.init
      have hxl := Lib.hid (hx x (by simp))
      have hxr : ∀ y ∈ r, y.length ≤ 1000000000 := fun y hy => hx y (by simp [hy])
      have hr := left_range n (by omega)
      have Hlt := Lib.hid (fun hk => valR_lt shaF x r n i s hn1 hk)
      have Hge := Lib.hid (fun hk => valR_ge shaF x r n i s hn1 hk)
      obtain ⟨k, hk⟩ : ∃ k, left n = k := ⟨_, rfl⟩
      rw [hk] at hr Hlt Hge
      have Hk := Lib.hid hk
      have H1 : Hid (∀ w', Hld w w' → i < k → Calls Tryd.prog 46 #[.int .i64 (k : Int), .int .i64 (i : Int), .string ⟨(leafF shaF s).toArray⟩, .slice (some ⟨b, o, none⟩) r.length cap] w' fun e W' =>
          e = .returned (.tuple #[.string ⟨(valR shaF r k i s).1.toArray⟩, .bool (valR shaF r k i s).2]) ∧ Below w'.heap.size w' W') := Lib.hid fun w' h hik =>
        ih (some ⟨b, o, none⟩) cap k i w' (h.konst HK.out) (by omega) (by omega) (h.strsAt Hi.out).strs hxr hik (by omega)
      have H2 : Hid (∀ w', Hld w w' → ¬ i < k → Calls Tryd.prog 46 #[.int .i64 ((n : Int) - (k : Int)), .int .i64 ((i : Int) - (k : Int)), .string ⟨(leafF shaF s).toArray⟩, .slice (some ⟨b, o, none⟩) r.length cap] w' fun e W' =>
          e = .returned (.tuple #[.string ⟨(valR shaF r (n - k) (i - k) s).1.toArray⟩, .bool (valR shaF r (n - k) (i - k) s).2]) ∧ Below w'.heap.size w' W') := Lib.hid fun w' h hik => by
        have e1 : ((n - k : Nat) : Int) = (n : Int) - (k : Int) := by omega
        have e2 : ((i - k : Nat) : Int) = (i : Int) - (k : Int) := by omega
        rw [← e1, ← e2]
        exact ih (some ⟨b, o, none⟩) cap (n - k) (i - k) w' (h.konst HK.out) (by omega) (by omega) (h.strsAt Hi.out).strs hxr (by omega) (by omega)
      have HL1 := Lib.hid (valR_length s r k i)
      have HL2 := Lib.hid (valR_length s r (n - k) (i - k))
      clear ih hx hs hs' hk hxr
      have q1 : ((n : Int) == 1) = false := by rw [beq_eq_false_iff_ne]; omega
      have q3 : (((r.length : Nat) : Int) + 1 == 0) = false := by rw [beq_eq_false_iff_ne]; omega
      generalize valR shaF (x :: r) n i s = all at *
      obtain ⟨hr1, hr2, hr3⟩ := hr
      by_cases hik : i < k
      · have HE := Lib.hid (Hlt.out hik)
        generalize valR shaF r k i s = v at *
        have q4 : (i : Int) < (k : Int) := by omega
        go_enter Tryd.func46, Tryd.ntmps46
        go_wp2_with fail
        refine HS.out.mono ?_
        rintro e w1 ⟨rfl, q, rfl⟩
        have b1 : Hld w (w.drewN q) := Lib.hid (below_drewN (Below.refl _ _) q)
        generalize w.drewN q = w1 at *
        go_wp2_with fail
        refine (firstPart_calls n _ (by omega) hn).mono ?_
        rw [Hk.out]
        rintro e w' ⟨rfl, rfl⟩
        go_wp2_with fail
        refine (H1.out _ b1 hik).mono ?_
        rintro e w2 ⟨rfl, b2⟩
        have b3 := b1.step b2
        go_wp2_with fail
        refine (Node_calls _ _ _ (b3.konst HK.out) (by rw [mk_size]; have := HL1.out; omega) (by rw [mk_size]; have := hxl.out; omega)).mono ?_
        rintro e w4 ⟨rfl, b4⟩
        have b5 := b3.step b4
        go_wp2_with fail
        refine bodyPost_ret (results_tmp2 rfl _ _ _) rfl ?_
        exact ⟨by rw [HE.out]; rfl, Hid.out b5⟩
      · have HE := Lib.hid (Hge.out hik)
        generalize valR shaF r (n - k) (i - k) s = v at *
        have q4 : (k : Int) ≤ (i : Int) := by omega
        go_enter Tryd.func46, Tryd.ntmps46
        go_wp2_with fail
        refine HS.out.mono ?_
        rintro e w1 ⟨rfl, q, rfl⟩
        have b1 : Hld w (w.drewN q) := Lib.hid (below_drewN (Below.refl _ _) q)
        generalize w.drewN q = w1 at *
        go_wp2_with fail
        refine (firstPart_calls n _ (by omega) hn).mono ?_
        rw [Hk.out]
        rintro e w' ⟨rfl, rfl⟩
        go_wp2_with fail
        refine (H2.out _ b1 hik).mono ?_
        rintro e w2 ⟨rfl, b2⟩
        have b3 := b1.step b2
        go_wp2_with fail
        refine (Node_calls _ _ _ (b3.konst HK.out) (by rw [mk_size]; have := hxl.out; omega) (by rw [mk_size]; have := HL2.out; omega)).mono ?_
        rintro e w4 ⟨rfl, b4⟩
        have b5 := b3.step b4
        go_wp2_with fail
        refine bodyPost_ret (results_tmp2 rfl _ _ _) rfl ?_
        exact ⟨by rw [HE.out]; rfl, Hid.out b5⟩
/-- What Verify answers. -/
def verB (root : Bs) (n i : Int) (s : Bs) (p : List Bs) : Bool :=
  decide (0 ≤ i ∧ i < n ∧ (∀ x ∈ p, x.length = 32) ∧ (valR shaF p.reverse n.toNat i.toNat s).2 = true ∧ (valR shaF p.reverse n.toNat i.toNat s).1 = root)
theorem bs_beq (v : Bs) (y : ByteArray) : (v == y.toList) = decide (v = y.data.toList) := by
  rw [ByteArray.toList_eq, Bool.eq_iff_iff]
  simp

set_option maxRecDepth 100000 in
set_option maxHeartbeats 2000000 in
theorem Verify_calls (root : ByteArray) (n i : Int) (s : ByteArray) (p : List Bs) (A : Option Addr) (cap : Nat) (w : World) (hK : Konst w) (hn : n ≤ 9223372036854775807) (hp : p.length ≤ 1000) (hc : p.length ≤ cap) (hs : Strs w A p)
    (hx : ∀ x ∈ p, x.length ≤ 1000000000) (hsz : s.size ≤ 1000000000) :
    Calls Tryd.prog 29 #[.string root, .int .i64 n, .int .i64 i, .string s, .slice A p.length cap] w fun e W' => e = .returned (.bool (verB root.data.toList n i s.data.toList p)) ∧ Below w.heap.size w W' := by
  have HK := Lib.hid hK
  clear hK
  by_cases h0 : i < 0
  · have HE : Hid (verB root.data.toList n i s.data.toList p = false) := Lib.hid (by unfold verB; rw [decide_eq_false_iff_not]; intro h; omega)
    generalize verB root.data.toList n i s.data.toList p = v at *
    clear hs hx
    generalize p.length = m at *
    go_enter Tryd.func29, Tryd.ntmps29
    go_wp2_with fail
    go_ret
    exact ⟨by rw [HE.out]; rfl, Below.refl _ _⟩
  by_cases h1 : n ≤ i
  · have HE : Hid (verB root.data.toList n i s.data.toList p = false) := Lib.hid (by unfold verB; rw [decide_eq_false_iff_not]; intro h; omega)
    generalize verB root.data.toList n i s.data.toList p = v at *
    clear hs hx
    generalize p.length = m at *
    have h2 : 0 ≤ i := by omega
    clear h0
    go_enter Tryd.func29, Tryd.ntmps29
    go_wp2_with fail
    go_ret
    exact ⟨by rw [HE.out]; rfl, Below.refl _ _⟩
  have h2 : 0 ≤ i := by omega
  have h3 : i < n := by omega
  clear h0 h1
  have HA := Lib.hid (areDigests_calls p A cap w hs (by omega) (fun x h => by have := hx x h; omega))
  by_cases hall : ∀ x ∈ p, x.length = 32
  · rw [decide_eq_true hall] at HA
    have Hv : Hid (∀ w', Hld w w' → Calls Tryd.prog 46 #[.int .i64 n, .int .i64 i, .string ⟨(leafF shaF s.data.toList).toArray⟩, .slice A p.length cap] w' fun e W' =>
        e = .returned (.tuple #[.string ⟨(valR shaF p.reverse n.toNat i.toNat s.data.toList).1.toArray⟩, .bool (valR shaF p.reverse n.toNat i.toNat s.data.toList).2]) ∧ Below w'.heap.size w' W') := Lib.hid fun w' h => by
      have := value_main s.data.toList p.reverse A cap n.toNat i.toNat w' (h.konst HK.out) (by rw [List.length_reverse]; exact hp) (by rw [List.length_reverse]; exact hc) (by rw [List.reverse_reverse]; exact h.strs hs) (fun x hm => hx x (by simpa using hm)) (by omega) (by omega)
      rw [List.length_reverse, Int.toNat_of_nonneg h2, Int.toNat_of_nonneg (show 0 ≤ n by omega)] at this
      exact this
    have HE : Hid (verB root.data.toList n i s.data.toList p = ((valR shaF p.reverse n.toNat i.toNat s.data.toList).2 && decide ((valR shaF p.reverse n.toNat i.toNat s.data.toList).1 = root.data.toList))) := Lib.hid (by
      unfold verB
      rw [Bool.eq_iff_iff, decide_eq_true_iff, Bool.and_eq_true, decide_eq_true_iff]
      exact ⟨fun h => ⟨h.2.2.2.1, h.2.2.2.2⟩, fun h => ⟨h2, h3, hall, h.1, h.2⟩⟩)
    generalize valR shaF p.reverse n.toNat i.toNat s.data.toList = v at *
    generalize verB root.data.toList n i s.data.toList p = vv at *
    obtain ⟨v1, v2⟩ := v
    clear hs hx hall
    generalize p.length = m at *
    go_enter Tryd.func29, Tryd.ntmps29
    go_wp2_with fail
    refine HA.out.mono ?_
    rintro e w1 ⟨rfl, rfl⟩
    go_wp2_with fail
    refine (Leaf_calls _ _ HK.out (by omega)).mono ?_
    rintro e w2 ⟨rfl, b2⟩
    have b3 := (Hld.refl w).step b2
    go_wp2_with fail
    refine (Hv.out _ b3).mono ?_
    rintro e w4 ⟨rfl, b4⟩
    have b5 := b3.step b4
    cases v2 with
    | false =>
      go_wp2_with fail
      go_ret
      exact ⟨by rw [HE.out]; rfl, Hid.out b5⟩
    | true =>
      go_wp2_with fail
      go_ret
      refine ⟨?_, Hid.out b5⟩
      show Ending.returned (.bool (v1 == root.toList)) = _
      rw [HE.out, bs_beq]
      rfl
  · rw [decide_eq_false hall] at HA
    have HE : Hid (verB root.data.toList n i s.data.toList p = false) := Lib.hid (by unfold verB; rw [decide_eq_false_iff_not]; exact fun h => hall h.2.2.1)
    generalize verB root.data.toList n i s.data.toList p = v at *
    clear hs hx hall
    generalize p.length = m at *
    go_enter Tryd.func29, Tryd.ntmps29
    go_wp2_with fail
    refine HA.out.mono ?_
    rintro e w1 ⟨rfl, rfl⟩
    go_wp2_with fail
    go_ret
    exact ⟨by rw [HE.out]; rfl, Below.refl _ _⟩
end Go.Proofs.YtinioifhbafngaaDoor
