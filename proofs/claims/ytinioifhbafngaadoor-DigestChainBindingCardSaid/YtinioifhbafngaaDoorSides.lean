/- The contract of the laws' sides: the strings that are digested for the new root of an extension that is accepted, and the value. Condition: the table of constants reads as the program lays it. -/
import Derived.Test.YtinioifhbafngaaDoorWay
namespace Go.Proofs.YtinioifhbafngaaDoor
open Go.RowKit

theorem bothR_length (old : Bs) (ho : old.length ≤ 60) (r : List Bs) (m n : Nat) (whole : Bool) (hr : ∀ x ∈ r, x.length ≤ 60) : (bothR shaF old r m n whole).2.1.length ≤ 60 := by
  cases r with
  | nil =>
    unfold bothR
    split
    · split
      · exact ho
      · simp
    · simp
  | cons x r =>
    unfold bothR
    split
    · split
      · exact ho
      · split
        · exact hr x (by simp)
        · simp
    · split
      · rw [show (nodeF shaF (bothR shaF old r m (left n) whole).2.1 x).length = 32 from shaF_length _]; omega
      · rw [show (nodeF shaF x (bothR shaF old r (m - left n) (n - left n) false).2.1).length = 32 from shaF_length _]; omega

set_option maxRecDepth 100000 in
set_option maxHeartbeats 4000000 in
theorem sides_main (old : Bs) (hol : old.length ≤ 60) (r : List Bs) : ∀ (A : Option Addr) (cap m n : Nat) (whole : Bool) (w : World), HK w → r.length ≤ 1000 → r.length ≤ cap → Strs w A r.reverse → (∀ x ∈ r, x.length ≤ 60) → 1 ≤ m → m ≤ n → n ≤ 9223372036854775807 → (bothR shaF old r m n whole).2.2 = true →
    Calls Tryd.prog 34 #[.string ⟨old.toArray⟩, .int .i64 (m : Int), .int .i64 (n : Int), .slice A r.length cap, .bool whole] w fun e W' =>
      (∃ v, e = .returned (.tuple #[v, .string ⟨(bothR shaF old r m n whole).2.1.toArray⟩]) ∧ RowS W' w.heap.size v (sidesR shaF old r m n whole)) ∧ Below w.heap.size w W' := by
  induction r with
  | nil =>
    intro A cap m n whole w hK _ _ _ _ h1 hi hn hok
    obtain ⟨hmn, hw, he⟩ := bothR_nil shaF old m n whole hok
    subst hmn hw
    have HE := Lib.hid he
    clear hok he
    generalize bothR shaF old [] m m true = allV at *
    show Calls _ _ #[_, _, _, .slice A 0 cap, _] _ _
    go_enter Tryd.func34, Tryd.ntmps34
    go_wp2_with fail
    refine bodyPost_ret (results_tmp2 rfl _ _ _) rfl ?_
    exact ⟨⟨_, by rw [HE.out]; rfl, RowS.nil _ _⟩, Below.refl _ _⟩
  | cons x r ih =>
    intro A cap m n whole w hK h1 h2 hs hx hm1 hi hn hok
    rw [List.reverse_cons] at hs
    rw [List.length_cons] at h1 h2 ⊢
    rcases hs with hs | ⟨b, o, rfl, hs⟩
    · simp at hs
    by_cases hmn : m = n
    · obtain ⟨hw, hr, he⟩ := bothR_eq shaF old x r m n whole hmn hok
      subst hmn hw hr
      have HE := Lib.hid he
      have hcell : w.cell? ⟨b, o, none⟩ = some (.string ⟨x.toArray⟩) := hs 0 (by simp)
      have HF : Hid (sidesR shaF old [x] m m false = []) := Lib.hid (by unfold sidesR; rw [if_pos (Nat.le_refl _)])
      clear hok he ih hx hs
      generalize bothR shaF old [x] m m false = allV at *
      generalize sidesR shaF old [x] m m false = allW at *
      have q7 : (1 : Int) ≤ (cap : Int) := by simp at h2; omega
      show Calls _ _ #[_, _, _, .slice (some ⟨b, o, none⟩) 1 cap, _] _ _
      go_enter Tryd.func34, Tryd.ntmps34
      go_wp2_with fail
      go_quiet (fail)
      all_goals
        go_wp2_with fail
        refine bodyPost_ret (results_tmp2 rfl _ _ _) rfl ?_
        exact ⟨⟨_, by rw [HE.out]; rfl, by rw [HF.out]; exact RowS.nil _ _⟩, below_drewN (Below.refl _ _) nq⟩
    have hs' : StrsAt w b o (r.reverse ++ [x]) := hs
    have hcell : w.cell? ⟨b, o + r.length, none⟩ = some (.string ⟨x.toArray⟩) := by
      have := hs' r.length (by simp)
      simpa using this
    have Hi := Lib.hid hs'.init
    have hxl : x.length ≤ 60 := hx x (by simp)
    have hxr : ∀ y ∈ r, y.length ≤ 60 := fun y hy => hx y (by simp [hy])
    have hr := left_range n (by omega)
    have Hlt := Lib.hid (fun hk => bothR_le shaF old x r m n whole hmn hk)
    have Hge := Lib.hid (fun hk => bothR_gt shaF old x r m n whole hmn hk)
    have Wlt := Lib.hid (fun hk => sidesR_le shaF old x r m n whole (by omega) hk)
    have Wge := Lib.hid (fun hk => sidesR_gt shaF old x r m n whole (by omega) hk)
    obtain ⟨k, hk⟩ : ∃ k, left n = k := ⟨_, rfl⟩
    rw [hk] at hr Hlt Hge Wlt Wge
    have Hk := Lib.hid hk
    have HL1 := Lib.hid (bothR_length old hol r m k whole hxr)
    have HL2 := Lib.hid (bothR_length old hol r (m - k) (n - k) false hxr)
    have HW1 := sidesR_length old r m k whole
    have HW2 := sidesR_length old r (m - k) (n - k) false
    by_cases hik : m ≤ k
    · have hok2 : (bothR shaF old r m k whole).2.2 = true := by rw [Hlt.out hik] at hok; exact hok
      have H1 : Hid (∀ w', Hld w w' → Calls Tryd.prog 34 #[.string ⟨old.toArray⟩, .int .i64 (m : Int), .int .i64 (k : Int), .slice (some ⟨b, o, none⟩) r.length cap, .bool whole] w' fun e W' =>
          (∃ v, e = .returned (.tuple #[v, .string ⟨(bothR shaF old r m k whole).2.1.toArray⟩]) ∧ RowS W' w'.heap.size v (sidesR shaF old r m k whole)) ∧ Below w'.heap.size w' W') := Lib.hid fun w' h =>
        ih (some ⟨b, o, none⟩) cap m k whole w' (hK.keep (Hid.out h)) (by omega) (by omega) (h.strsAt Hi.out).strs hxr hm1 hik (by omega) hok2
      have HE := Lib.hid (Hlt.out hik)
      have HF := Lib.hid (Wlt.out hik)
      clear ih hx hs hs' hk hxr Hlt Hge Wlt Wge hok hok2 HL2 HW2
      generalize sidesR shaF old (x :: r) m n whole = allW at *
      generalize bothR shaF old (x :: r) m n whole = allV at *
      generalize sidesR shaF old r m k whole = W1 at *
      generalize bothR shaF old r m k whole = V1 at *
      generalize hX : (⟨x.toArray⟩ : ByteArray) = X at *
      have HX : Hid (X.data.toList = x) := Lib.hid (by rw [← hX])
      have hXz : X.size ≤ 60 := by rw [← hX]; exact hxl
      have hVz : (⟨V1.2.1.toArray⟩ : ByteArray).size ≤ 60 := by rw [mk_size]; have := HL1.out; omega
      generalize hV : (⟨V1.2.1.toArray⟩ : ByteArray) = V at *
      have HV : Hid (V.data.toList = V1.2.1) := Lib.hid (by rw [← hV])
      have HB := Lib.hid (two_bytes 1 V X)
      clear hX hV
      obtain ⟨hr1, hr2, hr3⟩ := hr
      obtain ⟨q, hq⟩ : ∃ q, r.length = q := ⟨_, rfl⟩
      rw [hq] at h1 h2 hcell H1 HW1
      rw [hq]
      clear hq
      have q4 : (m : Int) ≤ (k : Int) := by omega
      have q5 : ¬ (n : Int) ≤ (m : Int) := by omega
      have q6 : (q : Int) ≤ (cap : Int) := by omega
      have q7 : (q : Int) + 1 ≤ (cap : Int) := by omega
      have q8 : ((q : Int) + 1 == 0) = false := by rw [beq_eq_false_iff_ne]; omega
      go_enter Tryd.func34, Tryd.ntmps34
      go_wp2_with fail
      refine (left_calls n _ (by omega) hn).mono ?_
      rw [Hk.out]
      rintro e w' ⟨rfl, rfl⟩
      go_wp2_with fail
      refine (H1.out _ (Hld.refl w)).mono ?_
      rintro e w2 ⟨⟨v2, rfl, hv2⟩, b2⟩
      have a2 := (Hld.refl w).step b2
      obtain ⟨A2, c2, rfl, hc2, t2, hA2⟩ := hv2.lies
      obtain ⟨v3, w3, hr3, hv3, hg3⟩ := append_rows w.heap.size (w2.alloc (.cells #[.string ((⟨#[1]⟩ : ByteArray) ++ V ++ X)] 9)) (RowS.oneB w2 w.heap.size a2.size ((⟨#[1]⟩ : ByteArray) ++ V ++ X)) (m := W1) (A := A2) (c := c2) (Hid.out (t2.keep ((Below.refl _ w2).alloc (Nat.le_refl _) _))) hA2 (a2.alloc _).size (by simp; omega) 26
      have a3 : Hld w w3 := (a2.alloc _).grown hg3 (RowS.oneB w2 w.heap.size a2.size ((⟨#[1]⟩ : ByteArray) ++ V ++ X)).lt
      rw [HB.out, HV.out, HX.out] at hv3
      go_wp2_with (at_builtin; refine wpList_append_run rfl _ _ 26 rfl _ _ rfl rfl hr3 ?_)
      refine (Node_calls V X _ (Hid.out (hK.keep (Hid.out a3))) (by omega) (by omega)).mono ?_
      rintro e w4 ⟨rfl, b4⟩
      have hv4 := hv3.below b4
      go_wp2_with fail
      refine bodyPost_ret (results_tmp2 rfl _ _ _) rfl ?_
      refine ⟨⟨_, by rw [HE.out, HV.out, HX.out]; rfl, ?_⟩, Hid.out (a3.step b4)⟩
      rw [HF.out]
      exact hv4
    · have hok2 : (bothR shaF old r (m - k) (n - k) false).2.2 = true := by rw [Hge.out hik] at hok; exact hok
      have H1 : Hid (∀ w', Hld w w' → Calls Tryd.prog 34 #[.string ⟨old.toArray⟩, .int .i64 ((m : Int) - (k : Int)), .int .i64 ((n : Int) - (k : Int)), .slice (some ⟨b, o, none⟩) r.length cap, .bool false] w' fun e W' =>
          (∃ v, e = .returned (.tuple #[v, .string ⟨(bothR shaF old r (m - k) (n - k) false).2.1.toArray⟩]) ∧ RowS W' w'.heap.size v (sidesR shaF old r (m - k) (n - k) false)) ∧ Below w'.heap.size w' W') := Lib.hid fun w' h => by
        have e1 : ((n - k : Nat) : Int) = (n : Int) - (k : Int) := by omega
        have e2 : ((m - k : Nat) : Int) = (m : Int) - (k : Int) := by omega
        rw [← e1, ← e2]
        exact ih (some ⟨b, o, none⟩) cap (m - k) (n - k) false w' (hK.keep (Hid.out h)) (by omega) (by omega) (h.strsAt Hi.out).strs hxr (by omega) (by omega) (by omega) hok2
      have HE := Lib.hid (Hge.out hik)
      have HF := Lib.hid (Wge.out hik)
      clear ih hx hs hs' hk hxr Hlt Hge Wlt Wge hok hok2 HL1 HW1
      generalize sidesR shaF old (x :: r) m n whole = allW at *
      generalize bothR shaF old (x :: r) m n whole = allV at *
      generalize sidesR shaF old r (m - k) (n - k) false = W1 at *
      generalize bothR shaF old r (m - k) (n - k) false = V1 at *
      generalize hX : (⟨x.toArray⟩ : ByteArray) = X at *
      have HX : Hid (X.data.toList = x) := Lib.hid (by rw [← hX])
      have hXz : X.size ≤ 60 := by rw [← hX]; exact hxl
      have hVz : (⟨V1.2.1.toArray⟩ : ByteArray).size ≤ 60 := by rw [mk_size]; have := HL2.out; omega
      generalize hV : (⟨V1.2.1.toArray⟩ : ByteArray) = V at *
      have HV : Hid (V.data.toList = V1.2.1) := Lib.hid (by rw [← hV])
      have HB := Lib.hid (two_bytes 1 X V)
      clear hX hV
      obtain ⟨hr1, hr2, hr3⟩ := hr
      obtain ⟨q, hq⟩ : ∃ q, r.length = q := ⟨_, rfl⟩
      rw [hq] at h1 h2 hcell H1 HW2
      rw [hq]
      clear hq
      have q4 : (k : Int) < (m : Int) := by omega
      have q5 : ¬ (n : Int) ≤ (m : Int) := by omega
      have q6 : (q : Int) ≤ (cap : Int) := by omega
      have q7 : (q : Int) + 1 ≤ (cap : Int) := by omega
      have q8 : ((q : Int) + 1 == 0) = false := by rw [beq_eq_false_iff_ne]; omega
      go_enter Tryd.func34, Tryd.ntmps34
      go_wp2_with fail
      refine (left_calls n _ (by omega) hn).mono ?_
      rw [Hk.out]
      rintro e w' ⟨rfl, rfl⟩
      go_wp2_with fail
      refine (H1.out _ (Hld.refl w)).mono ?_
      rintro e w2 ⟨⟨v2, rfl, hv2⟩, b2⟩
      have a2 := (Hld.refl w).step b2
      obtain ⟨A2, c2, rfl, hc2, t2, hA2⟩ := hv2.lies
      obtain ⟨v3, w3, hr3, hv3, hg3⟩ := append_rows w.heap.size (w2.alloc (.cells #[.string ((⟨#[1]⟩ : ByteArray) ++ X ++ V)] 9)) (RowS.oneB w2 w.heap.size a2.size ((⟨#[1]⟩ : ByteArray) ++ X ++ V)) (m := W1) (A := A2) (c := c2) (Hid.out (t2.keep ((Below.refl _ w2).alloc (Nat.le_refl _) _))) hA2 (a2.alloc _).size (by simp; omega) 26
      have a3 : Hld w w3 := (a2.alloc _).grown hg3 (RowS.oneB w2 w.heap.size a2.size ((⟨#[1]⟩ : ByteArray) ++ X ++ V)).lt
      rw [HB.out, HX.out, HV.out] at hv3
      go_wp2_with (at_builtin; refine wpList_append_run rfl _ _ 26 rfl _ _ rfl rfl hr3 ?_)
      refine (Node_calls X V _ (Hid.out (hK.keep (Hid.out a3))) (by omega) (by omega)).mono ?_
      rintro e w4 ⟨rfl, b4⟩
      have hv4 := hv3.below b4
      go_wp2_with fail
      refine bodyPost_ret (results_tmp2 rfl _ _ _) rfl ?_
      refine ⟨⟨_, by rw [HE.out, HX.out, HV.out]; rfl, ?_⟩, Hid.out (a3.step b4)⟩
      rw [HF.out]
      exact hv4
end Go.Proofs.YtinioifhbafngaaDoor
