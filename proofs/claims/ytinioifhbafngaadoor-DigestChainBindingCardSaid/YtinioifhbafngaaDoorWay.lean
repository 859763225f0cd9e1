/- The contracts of the laws' way and sides: the strings that are digested for a proof that is accepted, and the value. Condition: the table of constants reads as the program lays it. -/
import Derived.Test.YtinioifhbafngaaDoorCol
namespace Go.Proofs.YtinioifhbafngaaDoor
open Go.RowKit

theorem wayR_length (s : Bs) (r : List Bs) : ∀ n i, (wayR shaF r n i s).length ≤ r.length + 1 := by
  induction r with
  | nil => intro n i; simp [wayR]
  | cons x r ih =>
    intro n i
    unfold wayR
    split
    · simp
    · split
      · simp only [List.length_cons]; have := ih (left n) i; omega
      · simp only [List.length_cons]; have := ih (n - left n) (i - left n); omega
theorem sidesR_length (old : Bs) (r : List Bs) : ∀ m n whole, (sidesR shaF old r m n whole).length ≤ r.length := by
  induction r with
  | nil => intro m n whole; simp [sidesR]
  | cons x r ih =>
    intro m n whole
    unfold sidesR
    split
    · simp
    · split
      · simp only [List.length_cons]; have := ih m (left n) whole; omega
      · simp only [List.length_cons]; have := ih (m - left n) (n - left n) false; omega

set_option maxRecDepth 100000 in
set_option maxHeartbeats 4000000 in
theorem way_main (s : Bs) (hsl : s.length ≤ 60) (r : List Bs) : ∀ (A : Option Addr) (cap n i : Nat) (w : World), HK w → r.length ≤ 1000 → r.length ≤ cap → Strs w A r.reverse → (∀ x ∈ r, x.length ≤ 60) → i < n → n ≤ 9223372036854775807 → (valR shaF r n i s).2 = true →
    Calls Tryd.prog 31 #[.int .i64 (n : Int), .int .i64 (i : Int), .string ⟨s.toArray⟩, .slice A r.length cap] w fun e W' =>
      (∃ v, e = .returned (.tuple #[v, .string ⟨(valR shaF r n i s).1.toArray⟩]) ∧ RowS W' w.heap.size v (wayR shaF r n i s)) ∧ Below w.heap.size w W' := by
  induction r with
  | nil =>
    intro A cap n i w hK _ _ _ _ hi hn hok
    have h1 : n = 1 := by
      by_cases h : n = 1
      · exact h
      · unfold valR at hok; rw [if_neg h] at hok; cases hok
    subst h1
    have HE : Hid (valR shaF [] 1 i s = (leafF shaF s, true)) := Lib.hid rfl
    have HB := Lib.hid (one_bytes 0 ⟨s.toArray⟩)
    clear hok
    generalize hS : (⟨s.toArray⟩ : ByteArray) = S at *
    have HS2 : Hid (S.data.toList = s) := Lib.hid (by rw [← hS])
    have hSz : S.size ≤ 60 := by rw [← hS]; exact hsl
    clear hS
    show Calls _ _ #[_, _, _, .slice A 0 cap] _ _
    go_enter Tryd.func31, Tryd.ntmps31
    go_wp2_with fail
    have h0 := (Hld.refl w).alloc (.cells #[.string ((⟨#[0]⟩ : ByteArray) ++ S)] 9)
    have hv := RowS.oneB w w.heap.size (Nat.le_refl _) ((⟨#[0]⟩ : ByteArray) ++ S)
    refine (Leaf_calls S _ (Hid.out (hK.keep (Hid.out h0))) (by omega)).mono ?_
    rintro e w2 ⟨rfl, b2⟩
    have hv2 := hv.below b2
    go_wp2_with fail
    refine bodyPost_ret (results_tmp2 rfl _ _ _) rfl ?_
    refine ⟨⟨_, by rw [HE.out, HS2.out]; rfl, ?_⟩, Hid.out (h0.step b2)⟩
    rw [HB.out, HS2.out] at hv2
    exact hv2
  | cons x r ih =>
    intro A cap n i w hK h1 h2 hs hx hi hn hok
    rw [List.reverse_cons] at hs
    rw [List.length_cons] at h1 h2 ⊢
    rcases hs with hs | ⟨b, o, rfl, hs⟩
    · simp at hs
    have hn1 : ¬ n = 1 := by
      intro h; subst h
      unfold valR at hok; rw [if_pos rfl] at hok; cases hok
    have hs' : StrsAt w b o (r.reverse ++ [x]) := hs
    have hcell : w.cell? ⟨b, o + r.length, none⟩ = some (.string ⟨x.toArray⟩) := by
      have := hs' r.length (by simp)
      simpa using this
    have Hi := Lib.hid hs'.init
    have hxl : x.length ≤ 60 := hx x (by simp)
    have hxr : ∀ y ∈ r, y.length ≤ 60 := fun y hy => hx y (by simp [hy])
    have hr := left_range n (by omega)
    have Hlt := Lib.hid (fun hk => valR_lt shaF x r n i s hn1 hk)
    have Hge := Lib.hid (fun hk => valR_ge shaF x r n i s hn1 hk)
    have Wlt := Lib.hid (fun hk => wayR_lt shaF x r n i s (by omega) hk)
    have Wge := Lib.hid (fun hk => wayR_ge shaF x r n i s (by omega) hk)
    obtain ⟨k, hk⟩ : ∃ k, left n = k := ⟨_, rfl⟩
    rw [hk] at hr Hlt Hge Wlt Wge
    have Hk := Lib.hid hk
    have HL1 := Lib.hid (valR_length s r k i)
    have HL2 := Lib.hid (valR_length s r (n - k) (i - k))
    have HW1 := wayR_length s r k i
    have HW2 := wayR_length s r (n - k) (i - k)
    by_cases hik : i < k
    · have hok2 : (valR shaF r k i s).2 = true := by rw [Hlt.out hik] at hok; exact hok
      have H1 : Hid (∀ w', Hld w w' → Calls Tryd.prog 31 #[.int .i64 (k : Int), .int .i64 (i : Int), .string ⟨s.toArray⟩, .slice (some ⟨b, o, none⟩) r.length cap] w' fun e W' =>
          (∃ v, e = .returned (.tuple #[v, .string ⟨(valR shaF r k i s).1.toArray⟩]) ∧ RowS W' w'.heap.size v (wayR shaF r k i s)) ∧ Below w'.heap.size w' W') := Lib.hid fun w' h =>
        ih (some ⟨b, o, none⟩) cap k i w' (hK.keep (Hid.out h)) (by omega) (by omega) (h.strsAt Hi.out).strs hxr hik (by omega) hok2
      have HE := Lib.hid (Hlt.out hik)
      have HF := Lib.hid (Wlt.out hik)
      clear ih hx hs hs' hk hxr Hlt Hge Wlt Wge hok hok2 HL2 HW2
      generalize wayR shaF (x :: r) n i s = allW at *
      generalize valR shaF (x :: r) n i s = allV at *
      generalize wayR shaF r k i s = W1 at *
      generalize valR shaF r k i s = V1 at *
      generalize hX : (⟨x.toArray⟩ : ByteArray) = X at *
      have HX : Hid (X.data.toList = x) := Lib.hid (by rw [← hX])
      have hXz : X.size ≤ 60 := by rw [← hX]; exact hxl
      have hVz : (⟨V1.1.toArray⟩ : ByteArray).size ≤ 60 := by rw [mk_size]; have := HL1.out; omega
      generalize hV : (⟨V1.1.toArray⟩ : ByteArray) = V at *
      have HV : Hid (V.data.toList = V1.1) := Lib.hid (by rw [← hV])
      have HB := Lib.hid (two_bytes 1 V X)
      clear hX hV
      obtain ⟨hr1, hr2, hr3⟩ := hr
      obtain ⟨q, hq⟩ : ∃ q, r.length = q := ⟨_, rfl⟩
      rw [hq] at h1 h2 hcell H1 HW1
      rw [hq]
      clear hq
      have q4 : (i : Int) < (k : Int) := by omega
      have q5 : ¬ (n : Int) ≤ 1 := by omega
      have q6 : (q : Int) ≤ (cap : Int) := by omega
      have q7 : (q : Int) + 1 ≤ (cap : Int) := by omega
      have q8 : ((q : Int) + 1 == 0) = false := by rw [beq_eq_false_iff_ne]; omega
      go_enter Tryd.func31, Tryd.ntmps31
      go_wp2_with fail
      refine (left_calls n _ (by omega) hn).mono ?_
      rw [Hk.out]
      rintro e w' ⟨rfl, rfl⟩
      go_wp2_with fail
      refine (H1.out _ (Hld.refl w)).mono ?_
      rintro e w2 ⟨⟨v2, rfl, hv2⟩, b2⟩
      have a2 := (Hld.refl w).step b2
      obtain ⟨A2, c2, rfl, hc2, t2, hA2⟩ := hv2.lies
      obtain ⟨v3, w3, hr3, hv3, hg3⟩ := append_rows w.heap.size (w2.alloc (.cells #[.string ((⟨#[1]⟩ : ByteArray) ++ V ++ X)] 9)) (RowS.oneB w2 w.heap.size a2.size ((⟨#[1]⟩ : ByteArray) ++ V ++ X)) (m := W1) (A := A2) (c := c2) (Hid.out (t2.keep ((Below.refl _ w2).alloc (Nat.le_refl _) _))) hA2 (a2.alloc _).size (by simp; omega) 26
      have a3 : Hld w w3 := (a2.alloc _).grown hg3 (RowS.oneB w2 w.heap.size a2.size ((⟨#[1]⟩ : ByteArray) ++ V ++ X)).lt
      rw [HB.out, HV.out, HX.out] at hv3
      go_wp2_with (at_builtin; refine wpList_append_run rfl _ _ 26 rfl _ _ rfl rfl hr3 ?_)
      refine (Node_calls V X _ (Hid.out (hK.keep (Hid.out a3))) (by omega) (by omega)).mono ?_
      rintro e w4 ⟨rfl, b4⟩
      have hv4 := hv3.below b4
      go_wp2_with fail
      refine bodyPost_ret (results_tmp2 rfl _ _ _) rfl ?_
      refine ⟨⟨_, by rw [HE.out, HV.out, HX.out]; rfl, ?_⟩, Hid.out (a3.step b4)⟩
      rw [HF.out]
      exact hv4
    · have hok2 : (valR shaF r (n - k) (i - k) s).2 = true := by rw [Hge.out hik] at hok; exact hok
      have H1 : Hid (∀ w', Hld w w' → Calls Tryd.prog 31 #[.int .i64 ((n : Int) - (k : Int)), .int .i64 ((i : Int) - (k : Int)), .string ⟨s.toArray⟩, .slice (some ⟨b, o, none⟩) r.length cap] w' fun e W' =>
          (∃ v, e = .returned (.tuple #[v, .string ⟨(valR shaF r (n - k) (i - k) s).1.toArray⟩]) ∧ RowS W' w'.heap.size v (wayR shaF r (n - k) (i - k) s)) ∧ Below w'.heap.size w' W') := Lib.hid fun w' h => by
        have e1 : ((n - k : Nat) : Int) = (n : Int) - (k : Int) := by omega
        have e2 : ((i - k : Nat) : Int) = (i : Int) - (k : Int) := by omega
        rw [← e1, ← e2]
        exact ih (some ⟨b, o, none⟩) cap (n - k) (i - k) w' (hK.keep (Hid.out h)) (by omega) (by omega) (h.strsAt Hi.out).strs hxr (by omega) (by omega) hok2
      have HE := Lib.hid (Hge.out hik)
      have HF := Lib.hid (Wge.out hik)
      clear ih hx hs hs' hk hxr Hlt Hge Wlt Wge hok hok2 HL1 HW1
      generalize wayR shaF (x :: r) n i s = allW at *
      generalize valR shaF (x :: r) n i s = allV at *
      generalize wayR shaF r (n - k) (i - k) s = W1 at *
      generalize valR shaF r (n - k) (i - k) s = V1 at *
      generalize hX : (⟨x.toArray⟩ : ByteArray) = X at *
      have HX : Hid (X.data.toList = x) := Lib.hid (by rw [← hX])
      have hXz : X.size ≤ 60 := by rw [← hX]; exact hxl
      have hVz : (⟨V1.1.toArray⟩ : ByteArray).size ≤ 60 := by rw [mk_size]; have := HL2.out; omega
      generalize hV : (⟨V1.1.toArray⟩ : ByteArray) = V at *
      have HV : Hid (V.data.toList = V1.1) := Lib.hid (by rw [← hV])
      have HB := Lib.hid (two_bytes 1 X V)
      clear hX hV
      obtain ⟨hr1, hr2, hr3⟩ := hr
      obtain ⟨q, hq⟩ : ∃ q, r.length = q := ⟨_, rfl⟩
      rw [hq] at h1 h2 hcell H1 HW2
      rw [hq]
      clear hq
      have q4 : (k : Int) ≤ (i : Int) := by omega
      have q5 : ¬ (n : Int) ≤ 1 := by omega
      have q6 : (q : Int) ≤ (cap : Int) := by omega
      have q7 : (q : Int) + 1 ≤ (cap : Int) := by omega
      have q8 : ((q : Int) + 1 == 0) = false := by rw [beq_eq_false_iff_ne]; omega
      go_enter Tryd.func31, Tryd.ntmps31
      go_wp2_with fail
      refine (left_calls n _ (by omega) hn).mono ?_
      rw [Hk.out]
      rintro e w' ⟨rfl, rfl⟩
      go_wp2_with fail
      refine (H1.out _ (Hld.refl w)).mono ?_
      rintro e w2 ⟨⟨v2, rfl, hv2⟩, b2⟩
      have a2 := (Hld.refl w).step b2
      obtain ⟨A2, c2, rfl, hc2, t2, hA2⟩ := hv2.lies
      obtain ⟨v3, w3, hr3, hv3, hg3⟩ := append_rows w.heap.size (w2.alloc (.cells #[.string ((⟨#[1]⟩ : ByteArray) ++ X ++ V)] 9)) (RowS.oneB w2 w.heap.size a2.size ((⟨#[1]⟩ : ByteArray) ++ X ++ V)) (m := W1) (A := A2) (c := c2) (Hid.out (t2.keep ((Below.refl _ w2).alloc (Nat.le_refl _) _))) hA2 (a2.alloc _).size (by simp; omega) 26
      have a3 : Hld w w3 := (a2.alloc _).grown hg3 (RowS.oneB w2 w.heap.size a2.size ((⟨#[1]⟩ : ByteArray) ++ X ++ V)).lt
      rw [HB.out, HX.out, HV.out] at hv3
      go_wp2_with (at_builtin; refine wpList_append_run rfl _ _ 26 rfl _ _ rfl rfl hr3 ?_)
      refine (Node_calls X V _ (Hid.out (hK.keep (Hid.out a3))) (by omega) (by omega)).mono ?_
      rintro e w4 ⟨rfl, b4⟩
      have hv4 := hv3.below b4
      go_wp2_with fail
      refine bodyPost_ret (results_tmp2 rfl _ _ _) rfl ?_
      refine ⟨⟨_, by rw [HE.out, HX.out, HV.out]; rfl, ?_⟩, Hid.out (a3.step b4)⟩
      rw [HF.out]
      exact hv4
end Go.Proofs.YtinioifhbafngaaDoor
