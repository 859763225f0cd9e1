/- Contracts of package wire's Int, String and PutString in the cases that the laws meet. Conditions: lengths that fit memory. -/
import Derived.Test.YtnbeebndcgoalaaDoorWClone
import Derived.Lib.Strings
import Derived.Lib.IndexBytes
namespace Go.Proofs.YtnbeebndcgoalaaDoor
open Go.RowKit
theorem int_none (s : ByteArray) (p : Nat) (w : World) (hs : s.size ≤ 9223372036854775807) (ha1 : p ≤ s.size) (h : getI s.data.toList p = none) :
    Calls Tryd.prog 85 #[.string s, .int .i64 (p : Int)] w fun e w' => e = .returned (.tuple #[.int .i64 0, .int .i64 0, .int .i64 10]) ∧ w = w' := by
  have := int_calls s p w hs ha1
  rw [intF_none _ _ (by simpa using ha1) h] at this
  exact this
theorem int_some (s : ByteArray) (p : Nat) (w : World) (hs : s.size ≤ 9223372036854775807) (ha1 : p ≤ s.size) (n : Int) (m : Nat) (h : getI s.data.toList p = some (n, m)) :
    Calls Tryd.prog 85 #[.string s, .int .i64 (p : Int)] w fun e w' => e = .returned (.tuple #[.int .i64 n, .int .i64 (m : Int), .int .i64 0]) ∧ w = w' := by
  have := int_calls s p w hs ha1
  rw [intF_some _ _ (by simpa using ha1) _ _ h] at this
  exact this
theorem int_neg (s : ByteArray) (a : Int) (w : World) (ha : a < 0) :
    Calls Tryd.prog 85 #[.string s, .int .i64 a] w fun e w' => e = .returned (.tuple #[.int .i64 0, .int .i64 0, .int .i64 2]) ∧ w = w' := by
  go_enter Tryd.func85, Tryd.ntmps85
  go_wp2
  go_ret3
  exact ⟨rfl, rfl⟩
theorem int_past (s : ByteArray) (a : Int) (w : World) (ha : (s.size : Int) < a) :
    Calls Tryd.prog 85 #[.string s, .int .i64 a] w fun e w' => e = .returned (.tuple #[.int .i64 0, .int .i64 0, .int .i64 2]) ∧ w = w' := by
  have h0 : 0 ≤ a := by omega
  go_enter Tryd.func85, Tryd.ntmps85
  go_wp2
  go_ret3
  exact ⟨rfl, rfl⟩

theorem bytes_append (l : List UInt8) (s : ByteArray) : (⟨l.toArray⟩ : ByteArray) ++ s = ⟨(l ++ s.data.toList).toArray⟩ := by
  apply ByteArray.ext
  apply Array.ext'
  rw [ByteArray.data_append]
  simp

theorem putString_yes (s : ByteArray) (w : World) (hs : s.size ≤ 65536) :
    Calls Tryd.prog 56 #[.string s] w fun e W' => e = .returned (.tuple #[.string ⟨(putS s.data.toList).toArray⟩, .int .i64 0]) ∧ Below w.heap.size w W' := by
  have hs2 : (s.size : Int) ≤ 65536 := by omega
  go_enter Tryd.func56, Tryd.ntmps56
  go_wp2_with fail
  refine (putInt_yes _ _ (by omega) (by omega)).mono ?_
  rintro e w1 ⟨rfl, hB⟩
  have hl := (putI_length (s.size : Int)).2
  go_wp2_with fail
  go_ret2
  refine ⟨?_, hB⟩
  rw [show putS s.data.toList = putI (s.size : Int) ++ s.data.toList from rfl, ← bytes_append]
  rfl

theorem putString_no (s : ByteArray) (w : World) (hs : 65536 < s.size) (hs1 : s.size ≤ 9223372036854775807) :
    Calls Tryd.prog 56 #[.string s] w fun e W' => e = .returned (.tuple #[.string ⟨#[]⟩, .int .i64 10]) ∧ w = W' := by
  have hs2 : (65536 : Int) < (s.size : Int) := by omega
  go_enter Tryd.func56, Tryd.ntmps56
  go_wp2_with fail
  go_ret2
  exact ⟨rfl, rfl⟩

/-- How String ends where it refuses. -/
theorem string_refuse (s : ByteArray) (a : Int) (c : Int) (w : World) (h : Calls Tryd.prog 85 #[.string s, .int .i64 a] w fun e w' => e = .returned (.tuple #[.int .i64 0, .int .i64 0, .int .i64 c]) ∧ w = w') (hc : (c != 0) = true) :
    Calls Tryd.prog 87 #[.string s, .int .i64 a] w fun e w' => e = .returned (.tuple #[.string ⟨#[]⟩, .int .i64 0, .int .i64 c]) ∧ w = w' := by
  have H := Lib.hid h
  clear h
  go_enter Tryd.func87, Tryd.ntmps87
  go_wp2_with fail
  refine H.out.mono ?_
  rintro e w' ⟨rfl, rfl⟩
  go_wp2_with fail
  go_ret3
  exact ⟨rfl, rfl⟩

theorem string_length (s : ByteArray) (p : Nat) (w : World) (hs : s.size ≤ 9223372036854775807) (ha1 : p ≤ s.size) (n : Int) (m : Nat) (h : getI s.data.toList p = some (n, m))
    (hn : n < 0 ∨ 65536 < n ∨ (s.size : Int) - m < n) :
    Calls Tryd.prog 87 #[.string s, .int .i64 (p : Int)] w fun e w' => e = .returned (.tuple #[.string ⟨#[]⟩, .int .i64 0, .int .i64 10]) ∧ w = w' := by
  obtain ⟨f1, f2, f3, _, _⟩ := getI_sound _ _ _ _ h
  have f4 : m ≤ s.size := by simpa using f3
  obtain ⟨f5, f6⟩ := f1
  have H := Lib.hid (int_some s p w hs ha1 n m h)
  clear h f3
  by_cases c1 : n < 0
  · clear hn
    go_enter Tryd.func87, Tryd.ntmps87
    go_wp2_with fail
    refine H.out.mono ?_
    rintro e w' ⟨rfl, rfl⟩
    go_wp2_with fail
    go_ret3
    exact ⟨rfl, rfl⟩
  · have c2 : 0 ≤ n := by omega
    clear c1
    by_cases c3 : 65536 < n
    · clear hn
      go_enter Tryd.func87, Tryd.ntmps87
      go_wp2_with fail
      refine H.out.mono ?_
      rintro e w' ⟨rfl, rfl⟩
      go_wp2_with fail
      go_ret3
      exact ⟨rfl, rfl⟩
    · have c4 : n ≤ 65536 := by omega
      have c5 : (s.size : Int) - (m : Int) < n := by omega
      clear hn c3
      go_enter Tryd.func87, Tryd.ntmps87
      go_wp2_with fail
      refine H.out.mono ?_
      rintro e w' ⟨rfl, rfl⟩
      go_wp2_with fail
      go_ret3
      exact ⟨rfl, rfl⟩

theorem strings_Clone (s : ByteArray) (w : World) (h : s.size ≤ 281474976710656) :
    Calls Tryd.prog 89 #[.string s] w fun e w' => e = .returned (.string s) ∧ Below w.heap.size w w' := by
  go_enter Tryd.func89, Tryd.ntmps89
  go_wp2_with fail
  refine (stringslite_Clone _ _ h).mono ?_
  rintro e w2 ⟨rfl, hB⟩
  go_wp2_with fail
  go_ret
  exact ⟨rfl, hB⟩

theorem string_some (s : ByteArray) (p : Nat) (w : World) (hs : s.size ≤ 9223372036854775807) (ha1 : p ≤ s.size) (v : List UInt8) (e : Nat) (h : getS s.data.toList p = some (v, e)) :
    Calls Tryd.prog 87 #[.string s, .int .i64 (p : Int)] w fun r w' => r = .returned (.tuple #[.string ⟨v.toArray⟩, .int .i64 (e : Int), .int .i64 0]) ∧ Below w.heap.size w w' := by
  unfold getS at h
  cases hg : getI s.data.toList p with
  | none => rw [hg] at h; cases h
  | some q =>
    obtain ⟨n, m⟩ := q
    rw [hg] at h
    simp only at h
    by_cases hc : n < 0 ∨ 65536 < n ∨ (s.data.toList.length : Int) - m < n
    · rw [if_pos hc] at h; cases h
    · rw [if_neg hc] at h
      simp only [Option.some.injEq, Prod.mk.injEq] at h
      obtain ⟨hv, he⟩ := h
      obtain ⟨f1, f2, f3, _, _⟩ := getI_sound _ _ _ _ hg
      have f4 : m ≤ s.size := by simpa using f3
      have hl : s.data.toList.length = s.size := by simp
      rw [hl] at hc
      have H := Lib.hid (int_some s p w hs ha1 n m hg)
      obtain ⟨k, rfl⟩ := Int.eq_ofNat_of_zero_le (show 0 ≤ n by omega)
      have c4 : (k : Int) ≤ 65536 := by omega
      have c5 : (k : Int) ≤ (s.size : Int) - (m : Int) := by omega
      have Hv := Lib.hid hv
      have He := Lib.hid he
      have HS : Hid ((s.extract m (m + k)).size ≤ 281474976710656) := Lib.hid (by
        rw [Lib.size_eq, Lib.extract_data, List.length_take]; omega)
      have HX : Hid (s.extract m (m + k) = ⟨((s.data.toList.drop m).take (k : Int).toNat).toArray⟩) := Lib.hid (by
        apply ByteArray.ext
        apply Array.ext'
        rw [Lib.extract_data, Int.toNat_natCast, Nat.add_sub_cancel_left])
      clear hg f1 f3 hl hc hv he
      go_enter Tryd.func87, Tryd.ntmps87
      go_wp2_with fail
      refine H.out.mono ?_
      rintro e w' ⟨rfl, rfl⟩
      go_wp2_with fail
      refine (strings_Clone _ _ HS.out).mono ?_
      rintro e w2 ⟨rfl, hB⟩
      go_wp2_with fail
      go_ret3
      refine ⟨?_, hB⟩
      rw [← Hv.out, ← He.out, ← HX.out]
      rfl

/-! ### One contract for each, for every argument -/
/-- What String returns. -/
def strF (s : List UInt8) (a : Int) : List UInt8 × Int × Int :=
  if a < 0 ∨ (s.length : Int) < a then ([], 0, 2) else
  match getS s a.toNat with
  | none => ([], 0, 10)
  | some (v, e) => (v, (e : Int), 0)

theorem int_all (s : ByteArray) (a : Int) (w : World) (hs : s.size ≤ 9223372036854775807) :
    Calls Tryd.prog 85 #[.string s, .int .i64 a] w fun e w' => e = .returned (.tuple #[.int .i64 (intF s.data.toList a).1, .int .i64 (intF s.data.toList a).2.1, .int .i64 (intF s.data.toList a).2.2]) ∧ w = w' := by
  by_cases h1 : a < 0
  · have e : intF s.data.toList a = (0, 0, 2) := by unfold intF; rw [if_pos (Or.inl h1)]
    rw [e]; exact int_neg s a w h1
  · by_cases h2 : (s.size : Int) < a
    · have e : intF s.data.toList a = (0, 0, 2) := by unfold intF; rw [if_pos (Or.inr (by simpa using h2))]
      rw [e]; exact int_past s a w h2
    · obtain ⟨p, rfl⟩ := Int.eq_ofNat_of_zero_le (show 0 ≤ a by omega)
      exact int_calls s p w hs (by omega)

theorem str_all (s : ByteArray) (a : Int) (w : World) (hs : s.size ≤ 9223372036854775807) :
    Calls Tryd.prog 87 #[.string s, .int .i64 a] w fun e w' => e = .returned (.tuple #[.string ⟨(strF s.data.toList a).1.toArray⟩, .int .i64 (strF s.data.toList a).2.1, .int .i64 (strF s.data.toList a).2.2]) ∧ Below w.heap.size w w' := by
  by_cases h1 : a < 0
  · have e : strF s.data.toList a = ([], 0, 2) := by unfold strF; rw [if_pos (Or.inl h1)]
    rw [e]; exact (string_refuse s a 2 w (int_neg s a w h1) rfl).mono fun _ _ ⟨g1, g2⟩ => ⟨g1, g2 ▸ Below.refl _ _⟩
  · by_cases h2 : (s.size : Int) < a
    · have e : strF s.data.toList a = ([], 0, 2) := by unfold strF; rw [if_pos (Or.inr (by simpa using h2))]
      rw [e]; exact (string_refuse s a 2 w (int_past s a w h2) rfl).mono fun _ _ ⟨g1, g2⟩ => ⟨g1, g2 ▸ Below.refl _ _⟩
    · obtain ⟨p, rfl⟩ := Int.eq_ofNat_of_zero_le (show 0 ≤ a by omega)
      have hp : p ≤ s.size := by omega
      have hnot : ¬ ((p : Int) < 0 ∨ (s.data.toList.length : Int) < p) := by simp; omega
      cases hg : getS s.data.toList p with
      | some q =>
        obtain ⟨v, m⟩ := q
        have e : strF s.data.toList p = (v, (m : Int), 0) := by unfold strF; rw [if_neg hnot, Int.toNat_natCast, hg]
        rw [e]; exact string_some s p w hs hp v m hg
      | none =>
        have e : strF s.data.toList p = ([], 0, 10) := by unfold strF; rw [if_neg hnot, Int.toNat_natCast, hg]
        rw [e]
        cases hi : getI s.data.toList p with
        | none => exact (string_refuse s p 10 w (int_none s p w hs hp hi) rfl).mono fun _ _ ⟨g1, g2⟩ => ⟨g1, g2 ▸ Below.refl _ _⟩
        | some q =>
          obtain ⟨n, m⟩ := q
          refine (string_length s p w hs hp n m hi ?_).mono fun _ _ ⟨g1, g2⟩ => ⟨g1, g2 ▸ Below.refl _ _⟩
          unfold getS at hg
          rw [hi] at hg
          simp only at hg
          by_cases hc : n < 0 ∨ 65536 < n ∨ (s.data.toList.length : Int) - m < n
          · simpa using hc
          · rw [if_neg hc] at hg; cases hg

end Go.Proofs.YtnbeebndcgoalaaDoor
