/- Trees of digests: plain mathematics, the program's Leaf, Node and Root, the reference's; words for rows of strings. -/
import Derived.Test.YtnndnjnpkjpkpaaGreatDoorDDig
import Derived.WalkKit
import Derived.WalkSpells
import Derived.WalkLawsBesides
import Derived.Lib.Hide
import Derived.IntWalk
import Derived.Maps.AppendAt
namespace Go.Proofs.YtnndnjnpkjpkpaaGreatDoor
open Go.RowKit
theorem sha_len (s : List UInt8) : (shaF s).length = 32 := rfl
theorem leftA_spec (f k n j : Nat) (hk : k = 2 ^ j) (hn : k < n) (hf : n ≤ k + f) : ∃ i, leftA f k n = 2 ^ i ∧ 2 ^ i < n ∧ n ≤ 2 ^ (i + 1) := by
  induction f generalizing k j with
  | zero => omega
  | succ f ih =>
    unfold leftA
    have hp : 0 < 2 ^ j := Nat.two_pow_pos j
    by_cases h : k < n - k
    · rw [if_pos h]
      exact ih (2 * k) (j + 1) (by rw [hk, Nat.pow_succ, Nat.mul_comm]) (by omega) (by omega)
    · rw [if_neg h]
      exact ⟨j, hk, by omega, by rw [Nat.pow_succ]; omega⟩
theorem left_spec (n : Nat) (h : 2 ≤ n) : ∃ i, left n = 2 ^ i ∧ 2 ^ i < n ∧ n ≤ 2 ^ (i + 1) := leftA_spec n 1 n 0 rfl (by omega) (by omega)
theorem left_range (n : Nat) (h : 2 ≤ n) : 1 ≤ left n ∧ left n < n ∧ n - left n ≤ left n := by
  obtain ⟨i, h1, h2, h3⟩ := left_spec n h
  have hp : 0 < 2 ^ i := Nat.two_pow_pos i
  rw [Nat.pow_succ] at h3
  omega
theorem left_pow (n d : Nat) (h : 2 ≤ n) (hd : n ≤ 2 ^ (d + 1)) : left n ≤ 2 ^ d ∧ n - left n ≤ 2 ^ d := by
  obtain ⟨i, h1, h2, h3⟩ := left_spec n h
  have hi : i < d + 1 := (Nat.pow_lt_pow_iff_right (show 1 < 2 by omega)).1 (Nat.lt_of_lt_of_le h2 hd)
  have h4 : 2 ^ i ≤ 2 ^ d := Nat.pow_le_pow_right (by omega) (by omega)
  have := left_range n h
  omega

section
variable (hs : Bs → Bs)

def leafF (s : Bs) : Bs := hs (0 :: s)
def nodeF (a b : Bs) : Bs := hs (1 :: (a ++ b))
def chainF (h r : Bs) : Bs := hs (2 :: (h ++ r))

def rootA : Nat → List Bs → Bs
  | 0, _ => hs []
  | f + 1, l =>
    match l with
    | [] => hs []
    | [x] => leafF hs x
    | l => nodeF hs (rootA f (l.take (left l.length))) (rootA f (l.drop (left l.length)))
def rootF (l : List Bs) : Bs := rootA hs l.length l

theorem rootA_two (f : Nat) (l : List Bs) (h : 2 ≤ l.length) : rootA hs (f + 1) l = nodeF hs (rootA hs f (l.take (left l.length))) (rootA hs f (l.drop (left l.length))) := by
  match l, h with
  | _ :: _ :: _, _ => rfl
theorem rootA_fuel (f g : Nat) (l : List Bs) (hf : l.length ≤ f) (hg : l.length ≤ g) : rootA hs f l = rootA hs g l := by
  induction f generalizing g l with
  | zero =>
    have hl : l = [] := List.length_eq_zero_iff.1 (by omega)
    subst hl
    cases g <;> rfl
  | succ f ih =>
    cases g with
    | zero =>
      have hl : l = [] := List.length_eq_zero_iff.1 (by omega)
      subst hl; rfl
    | succ g =>
      by_cases h : 2 ≤ l.length
      · have hr := left_range _ h
        rw [rootA_two hs f l h, rootA_two hs g l h]
        rw [ih g (l.take (left l.length)) (by rw [List.length_take]; omega) (by rw [List.length_take]; omega), ih g (l.drop (left l.length)) (by rw [List.length_drop]; omega) (by rw [List.length_drop]; omega)]
      · match l, h with
        | [], _ => rfl
        | [_], _ => rfl
        | _ :: _ :: _, h => simp at h
theorem root_nil : rootF hs [] = hs [] := rfl
theorem root_one (x : Bs) : rootF hs [x] = leafF hs x := rfl
theorem root_two (l : List Bs) (h : 2 ≤ l.length) : rootF hs l = nodeF hs (rootF hs (l.take (left l.length))) (rootF hs (l.drop (left l.length))) := by
  have hr := left_range _ h
  unfold rootF
  obtain ⟨n, hn⟩ : ∃ n, l.length = n + 1 := ⟨l.length - 1, by omega⟩
  conv => lhs; rw [hn]
  rw [rootA_two hs n l h]
  rw [rootA_fuel hs n _ (l.take (left l.length)) (by rw [List.length_take]; omega) (Nat.le_refl _), rootA_fuel hs n _ (l.drop (left l.length)) (by rw [List.length_drop]; omega) (Nat.le_refl _)]

/-! ### Proofs of entries -/

end
theorem ret_int {k : IntKind} {a b : Int} (h : a = b) : Ending.returned (.int k a) = .returned (.int k b) := by rw [h]

theorem leftA_next (f k n : Nat) (h1 : 1 ≤ k) (hk : k < n) (hf : n ≤ k + f) (h : k < n - k) : ∃ g, leftA f k n = leftA g (2 * k) n ∧ n ≤ 2 * k + g := by
  cases f with
  | zero => omega
  | succ f => exact ⟨f, by rw [leftA, if_pos h], by omega⟩
theorem leftA_last (f k n : Nat) (h : ¬ k < n - k) : leftA f k n = k := by
  cases f with
  | zero => rfl
  | succ f => rw [leftA, if_neg h]

theorem Left_calls (n : Nat) (w : World) (h2 : 2 ≤ n) (hn : n ≤ 9223372036854775807) :
    Calls Tryz.prog 59 #[.int .i64 (n : Int)] w fun e w' => e = .returned (.int .i64 ((left n : Nat) : Int)) ∧ w = w' := by
  go_enter Tryz.func59, Tryz.ntmps59
  go_wp2
  go_loop [3] (fun kv => ∃ k : Nat, kv = .int .i64 k ∧ 1 ≤ k ∧ k < n ∧ Hid (∃ f, left n = leftA f k n ∧ n ≤ k + f)) (fun kv => n - (intOf kv).toNat)
  case atStart => exact ⟨1, rfl, by omega, by omega, Lib.hid ⟨n, rfl, by omega⟩⟩
  case round =>
    obtain ⟨k, rfl, hk1, hkn, HF⟩ := hrel
    by_cases hlt : (k : Int) < (n : Int) - (k : Int)
    · have HG : Hid (∃ f, left n = leftA f (2 * k) n ∧ n ≤ 2 * k + f) := Lib.hid (by
        obtain ⟨f, h1, h2⟩ := HF.out
        obtain ⟨g, h3, h4⟩ := leftA_next f k n hk1 hkn h2 (by omega)
        exact ⟨g, by rw [h1, h3], h4⟩)
      go_wp2_with fail
      go_round
      case rel => exact ⟨2 * k, by go_num, by omega, by omega, HG⟩
      case measure => simp [intOf]; omega
    · have HG : Hid (left n = k) := Lib.hid (by
        obtain ⟨f, h1, h2⟩ := HF.out
        rw [h1, leftA_last f k n (by omega)])
      go_wp2_with fail
      go_ret
      exact ⟨by rw [HG.out]; rfl, rfl⟩

theorem one_bytes (b : UInt8) (s : ByteArray) : ((⟨#[b]⟩ : ByteArray) ++ s).data.toList = b :: s.data.toList := by
  rw [ByteArray.data_append]; simp
theorem two_bytes (b : UInt8) (s t : ByteArray) : ((⟨#[b]⟩ : ByteArray) ++ s ++ t).data.toList = b :: (s.data.toList ++ t.data.toList) := by
  rw [ByteArray.data_append, ByteArray.data_append]; simp
theorem one_size (b : UInt8) (s : ByteArray) : ((⟨#[b]⟩ : ByteArray) ++ s).size = s.size + 1 := by
  rw [ByteArray.size_append]; show 1 + _ = _; omega
theorem two_size (b : UInt8) (s t : ByteArray) : ((⟨#[b]⟩ : ByteArray) ++ s ++ t).size = s.size + t.size + 1 := by
  rw [ByteArray.size_append, one_size]; omega

theorem refLeaf_calls (s : ByteArray) (w : World) (hs : s.size ≤ 900000) :
    Calls Tryz.prog 58 #[.string s] w fun e W' => e = .returned (.string ⟨(leafF shaF s.data.toList).toArray⟩) ∧ Below w.heap.size w W' := by
  have HS := Lib.hid (one_size 0 s)
  have HB := Lib.hid (one_bytes 0 s)
  go_enter Tryz.func58, Tryz.ntmps58
  go_wp2_with fail
  refine (refSum_calls _ _ (by rw [HS.out]; omega)).mono ?_
  rintro e w' ⟨rfl, bA⟩
  go_wp2_with fail
  go_ret
  exact ⟨rfl, bA⟩
theorem refNode_calls (s t : ByteArray) (w : World) (hs : s.size + t.size ≤ 900000) :
    Calls Tryz.prog 60 #[.string s, .string t] w fun e W' => e = .returned (.string ⟨(nodeF shaF s.data.toList t.data.toList).toArray⟩) ∧ Below w.heap.size w W' := by
  have HS := Lib.hid (two_size 1 s t)
  have HB := Lib.hid (two_bytes 1 s t)
  go_enter Tryz.func60, Tryz.ntmps60
  go_wp2_with fail
  refine (refSum_calls _ _ (by rw [HS.out]; omega)).mono ?_
  rintro e w' ⟨rfl, bA⟩
  go_wp2_with fail
  go_ret
  exact ⟨rfl, bA⟩
theorem root_length (l : List Bs) : (rootF shaF l).length = 32 := by
  by_cases h : 2 ≤ l.length
  · rw [root_two shaF l h]; exact sha_len _
  · match l, h with
    | [], _ => exact sha_len _
    | [_], _ => exact sha_len _
    | _ :: _ :: _, h => exact absurd (by simp) h
/-- What a walk holds from call to call: a slice of strings reads as before, and nothing that was there has changed. -/
def Holds (w0 : World) (b o : Nat) (l : List Bs) (w : World) : Prop := Hid (StrsAt w b o l ∧ Below w0.heap.size w0 w)
theorem Holds.step {w0 w w' : World} {b o : Nat} {l : List Bs} (h : Holds w0 b o l w) (hb : Below w.heap.size w w') : Holds w0 b o l w' :=
  Lib.hid ⟨(Hid.out h).1.keep hb, (Hid.out h).2.trans (hb.mono (Hid.out h).2.size)⟩
theorem Holds.start {w : World} {b o : Nat} {l : List Bs} (h : StrsAt w b o l) : Holds w b o l w.drew := Lib.hid ⟨h, (Below.refl _ _).drew⟩
set_option maxRecDepth 100000 in
set_option maxHeartbeats 4000000 in
theorem refRoot_main (n : Nat) : ∀ (l : List Bs) (b o cap : Nat) (w : World), l.length ≤ n → l.length ≤ 1000000 → l.length ≤ cap → StrsAt w b o l → (∀ x ∈ l, x.length ≤ 400000) → 1 ≤ l.length →
    Calls Tryz.prog 41 #[.slice (some ⟨b, o, none⟩) l.length cap] w fun e W' => e = .returned (.string ⟨(rootF shaF l).toArray⟩) ∧ Below w.heap.size w W' := by
  induction n with
  | zero => intro l b o cap w h1 _ _ _ _ h2; omega
  | succ n ih =>
    intro l b o cap w h1 h2 h3 hs hx h4
    by_cases h5 : 2 ≤ l.length
    · have hr := left_range _ h5
      have HE := Lib.hid (root_two shaF l h5)
      have Hs := Lib.hid hs
      obtain ⟨k, hk⟩ : ∃ k, left l.length = k := ⟨_, rfl⟩
      rw [hk] at hr HE
      have Hk := Lib.hid hk
      have hl1 : (l.take k).length = k := by rw [List.length_take]; omega
      have hl2 : (l.drop k).length = l.length - k := List.length_drop
      have h1' : ∀ w' : World, Holds w b o l w' → Calls Tryz.prog 41 #[.slice (some ⟨b, o, none⟩) k cap] w' fun e W' => e = .returned (.string ⟨(rootF shaF (l.take k)).toArray⟩) ∧ Below w'.heap.size w' W' := fun w' h => by
        have := ih (l.take k) b o cap w' (by omega) (by omega) (by omega) ((Hid.out h).1.take k) (fun x hm => hx x (List.mem_of_mem_take hm)) (by omega)
        rw [hl1] at this
        exact this
      have h2' : ∀ w' : World, Holds w b o l w' → Calls Tryz.prog 41 #[.slice (some ⟨b, o + k, none⟩) (l.length - k) (cap - k)] w' fun e W' => e = .returned (.string ⟨(rootF shaF (l.drop k)).toArray⟩) ∧ Below w'.heap.size w' W' := fun w' h => by
        have := ih (l.drop k) b (o + k) (cap - k) w' (by omega) (by omega) (by omega) ((Hid.out h).1.drop k) (fun x hm => hx x (List.mem_of_mem_drop hm)) (by omega)
        rw [hl2] at this
        exact this
      have H1 := Lib.hid h1'
      have H2 := Lib.hid h2'
      have HR1 := Lib.hid (root_length (l.take k))
      have HR2 := Lib.hid (root_length (l.drop k))
      clear h1' h2' hl1 hl2
      clear ih hs hx hk
      generalize l.length = m at *
      obtain ⟨hr1, hr2, hr3⟩ := hr
      have q1 : ((m : Int) == 0) = false := by rw [beq_eq_false_iff_ne]; omega
      have q2 : ((m : Int) == 1) = false := by rw [beq_eq_false_iff_ne]; omega
      go_enter Tryz.func41, Tryz.ntmps41
      go_wp2_with fail
      refine (Left_calls m _ h5 (by omega)).mono ?_
      rw [Hk.out]
      rintro e w' ⟨rfl, rfl⟩
      go_wp2_with fail
      have hc0 : ¬ cap = k := by omega
      have hk1 : (k : Int) ≤ (m : Int) := by omega
      have hk2 : (k : Int) ≤ (cap : Int) := by omega
      have hk3 : (m : Int) ≤ (cap : Int) := by omega
      go_region_held3 (fun w' => Holds w b o l w')
        (first
          | exact Holds.start Hs.out
          | exact Holds.step (by assumption) b4)
        (first
          | (go_at_call 41; (with_reducible refine (H1.out _ (by assumption)).mono ?_); rintro e w4 ⟨rfl, b4⟩)
          | (go_at_call 41; (with_reducible refine (H2.out _ (by assumption)).mono ?_); rintro e w4 ⟨rfl, b4⟩)
          | (go_at_call 60; (with_reducible refine (refNode_calls _ _ _ (by rw [mk_size, mk_size, HR1.out, HR2.out]; omega)).mono ?_); rintro e w4 ⟨rfl, b4⟩))
      go_wp2_with fail
      go_ret
      have hend : Holds w b o l w4 := by assumption
      exact ⟨by rw [HE.out]; rfl, (Hid.out hend).2⟩
    · obtain ⟨x, rfl⟩ : ∃ x, l = [x] := by
        match l, h4, h5 with
        | [x], _, _ => exact ⟨x, rfl⟩
        | _ :: _ :: _, _, h5 => exact absurd (by simp) h5
      have hc : w.cell? ⟨b, o, none⟩ = some (.string ⟨x.toArray⟩) := hs 0 (show 0 < 1 by decide)
      have hxl := Lib.hid (hx x (by simp))
      clear ih hs hx h1 h2 h4 h5
      show Calls _ _ #[.slice (some ⟨b, o, none⟩) 1 cap] _ _
      go_enter Tryz.func41, Tryz.ntmps41
      go_wp2_with fail
      refine (refLeaf_calls _ _ (by rw [mk_size]; have := hxl.out; omega)).mono ?_
      rintro e w4 ⟨rfl, b4⟩
      go_wp2_with fail
      go_ret
      exact ⟨rfl, b4⟩

theorem refRoot_nil (A : Option Addr) (cap : Nat) (w : World) :
    Calls Tryz.prog 41 #[.slice A 0 cap] w fun e W' => e = .returned (.string ⟨(rootF shaF []).toArray⟩) ∧ Below w.heap.size w W' := by
  go_enter Tryz.func41, Tryz.ntmps41
  go_wp2_with fail
  refine (refSum_calls _ _ (by decide)).mono ?_
  rintro e w4 ⟨rfl, b4⟩
  go_wp2_with fail
  go_ret
  exact ⟨rfl, b4⟩

theorem refRoot_calls (l : List Bs) (A : Option Addr) (cap : Nat) (w : World) (h2 : l.length ≤ 1000000) (h3 : l.length ≤ cap) (hs : Strs w A l) (hx : ∀ x ∈ l, x.length ≤ 400000) :
    Calls Tryz.prog 41 #[.slice A l.length cap] w fun e W' => e = .returned (.string ⟨(rootF shaF l).toArray⟩) ∧ Below w.heap.size w W' := by
  rcases hs with rfl | ⟨b, o, rfl, h⟩
  · exact refRoot_nil A cap w
  · by_cases h0 : l = []
    · subst h0; exact refRoot_nil _ cap w
    · exact refRoot_main l.length l b o cap w (Nat.le_refl _) h2 h3 h hx (List.length_pos_iff.2 h0)
theorem firstPart_calls (n : Nat) (w : World) (h2 : 2 ≤ n) (hn : n ≤ 9223372036854775807) :
    Calls Tryz.prog 45 #[.int .i64 (n : Int)] w fun e w' => e = .returned (.int .i64 ((left n : Nat) : Int)) ∧ w = w' := by
  go_enter Tryz.func45, Tryz.ntmps45
  go_wp2
  go_loop [3] (fun kv => ∃ k : Nat, kv = .int .i64 k ∧ 1 ≤ k ∧ k < n ∧ Hid (∃ f, left n = leftA f k n ∧ n ≤ k + f)) (fun kv => n - (intOf kv).toNat)
  case atStart => exact ⟨1, rfl, by omega, by omega, Lib.hid ⟨n, rfl, by omega⟩⟩
  case round =>
    obtain ⟨k, rfl, hk1, hkn, HF⟩ := hrel
    by_cases hlt : (k : Int) < (n : Int) - (k : Int)
    · have HG : Hid (∃ f, left n = leftA f (2 * k) n ∧ n ≤ 2 * k + f) := Lib.hid (by
        obtain ⟨f, h1, h2⟩ := HF.out
        obtain ⟨g, h3, h4⟩ := leftA_next f k n hk1 hkn h2 (by omega)
        exact ⟨g, by rw [h1, h3], h4⟩)
      go_wp2_with fail
      go_round
      case rel => exact ⟨2 * k, by go_num, by omega, by omega, HG⟩
      case measure => simp [intOf]; omega
    · have HG : Hid (left n = k) := Lib.hid (by
        obtain ⟨f, h1, h2⟩ := HF.out
        rw [h1, leftA_last f k n (by omega)])
      go_wp2_with fail
      go_ret
      exact ⟨by rw [HG.out]; rfl, rfl⟩

theorem data_length (t : ByteArray) : t.data.toList.length = t.size := by simp

theorem sum_two (c : UInt8) (s : ByteArray) (w : World) (hK : Konst w) (hs : s.size ≤ 10000000000) :
    Calls Tryz.prog 61 #[.slice (some ⟨w.heap.size, 0, none⟩) 2 2] (w.alloc (.cells #[.string ⟨#[c]⟩, .string s] 9)) fun e W' => e = .returned (.string ⟨(shaF (c :: s.data.toList)).toArray⟩) ∧ Below w.heap.size w W' := by
  have := sum_calls [[c], s.data.toList] w hK (by simp) (by simp) (by simp; omega)
  simpa [cellsS, mk_eta] using this
theorem sum_three (c : UInt8) (s t : ByteArray) (w : World) (hK : Konst w) (hs : s.size ≤ 10000000000) (ht : t.size ≤ 10000000000) :
    Calls Tryz.prog 61 #[.slice (some ⟨w.heap.size, 0, none⟩) 3 3] (w.alloc (.cells #[.string ⟨#[c]⟩, .string s, .string t] 9)) fun e W' => e = .returned (.string ⟨(shaF (c :: (s.data.toList ++ t.data.toList))).toArray⟩) ∧ Below w.heap.size w W' := by
  have := sum_calls [[c], s.data.toList, t.data.toList] w hK (by simp) (by simp) (by simp; omega)
  simpa [cellsS, mk_eta] using this

theorem Leaf_calls (s : ByteArray) (w : World) (hK : Konst w) (hs : s.size ≤ 10000000000) :
    Calls Tryz.prog 44 #[.string s] w fun e W' => e = .returned (.string ⟨(leafF shaF s.data.toList).toArray⟩) ∧ Below w.heap.size w W' := by
  have H := sum_two 0 s w hK hs
  go_enter Tryz.func44, Tryz.ntmps44
  go_wp2_with fail
  refine H.mono ?_
  rintro e w' ⟨rfl, b⟩
  go_wp2_with fail
  go_ret
  exact ⟨rfl, b⟩
theorem Node_calls (s t : ByteArray) (w : World) (hK : Konst w) (hs : s.size ≤ 10000000000) (ht : t.size ≤ 10000000000) :
    Calls Tryz.prog 46 #[.string s, .string t] w fun e W' => e = .returned (.string ⟨(nodeF shaF s.data.toList t.data.toList).toArray⟩) ∧ Below w.heap.size w W' := by
  have H := sum_three 1 s t w hK hs ht
  go_enter Tryz.func46, Tryz.ntmps46
  go_wp2_with fail
  refine H.mono ?_
  rintro e w' ⟨rfl, b⟩
  go_wp2_with fail
  go_ret
  exact ⟨rfl, b⟩
/-- What a walk holds from call to call: nothing that was there has changed. -/
def Hld (w0 w : World) : Prop := Hid (Below w0.heap.size w0 w)
theorem Hld.step {w0 w w' : World} (h : Hld w0 w) (hb : Below w.heap.size w w') : Hld w0 w' := Lib.hid ((Hid.out h).trans (hb.mono (Hid.out h).size))
theorem Hld.start (w : World) : Hld w w.drew := Lib.hid (Below.refl _ _).drew
theorem Hld.refl (w : World) : Hld w w := Lib.hid (Below.refl _ _)
theorem Hld.konst {w0 w : World} (h : Hld w0 w) (hK : Konst w0) : Konst w := hK.keep (Hid.out h)
theorem Hld.strsAt {w0 w : World} (h : Hld w0 w) {b o : Nat} {l : List Bs} (hs : StrsAt w0 b o l) : StrsAt w b o l := hs.keep (Hid.out h)
theorem Hld.strs {w0 w : World} (h : Hld w0 w) {A : Option Addr} {l : List Bs} (hs : Strs w0 A l) : Strs w A l := hs.keep (Hid.out h)
theorem StrsAt.strs {w : World} {b o : Nat} {l : List Bs} (h : StrsAt w b o l) : Strs w (some ⟨b, o, none⟩) l := Or.inr ⟨b, o, rfl, h⟩

set_option maxRecDepth 100000 in
set_option maxHeartbeats 4000000 in
theorem root_main (n : Nat) : ∀ (l : List Bs) (b o cap : Nat) (w : World), Konst w → l.length ≤ n → l.length ≤ 1000000 → l.length ≤ cap → StrsAt w b o l → (∀ x ∈ l, x.length ≤ 1000000000) → 1 ≤ l.length →
    Calls Tryz.prog 29 #[.slice (some ⟨b, o, none⟩) l.length cap] w fun e W' => e = .returned (.string ⟨(rootF shaF l).toArray⟩) ∧ Below w.heap.size w W' := by
  induction n with
  | zero => intro l b o cap w _ h1 _ _ _ _ h2; omega
  | succ n ih =>
    intro l b o cap w hK h1 h2 h3 hs hx h4
    have HK := Lib.hid hK
    clear hK
    by_cases h5 : 2 ≤ l.length
    · have hr := left_range _ h5
      have HE := Lib.hid (root_two shaF l h5)
      have Hs := Lib.hid hs
      obtain ⟨k, hk⟩ : ∃ k, left l.length = k := ⟨_, rfl⟩
      rw [hk] at hr HE
      have Hk := Lib.hid hk
      have hl1 : (l.take k).length = k := by rw [List.length_take]; omega
      have hl2 : (l.drop k).length = l.length - k := List.length_drop
      have h1' : ∀ w' : World, Hld w w' → Calls Tryz.prog 29 #[.slice (some ⟨b, o, none⟩) k cap] w' fun e W' => e = .returned (.string ⟨(rootF shaF (l.take k)).toArray⟩) ∧ Below w'.heap.size w' W' := fun w' h => by
        have := ih (l.take k) b o cap w' (h.konst HK.out) (by omega) (by omega) (by omega) ((h.strsAt hs).take k) (fun x hm => hx x (List.mem_of_mem_take hm)) (by omega)
        rw [hl1] at this
        exact this
      have h2' : ∀ w' : World, Hld w w' → Calls Tryz.prog 29 #[.slice (some ⟨b, o + k, none⟩) (l.length - k) (cap - k)] w' fun e W' => e = .returned (.string ⟨(rootF shaF (l.drop k)).toArray⟩) ∧ Below w'.heap.size w' W' := fun w' h => by
        have := ih (l.drop k) b (o + k) (cap - k) w' (h.konst HK.out) (by omega) (by omega) (by omega) ((h.strsAt hs).drop k) (fun x hm => hx x (List.mem_of_mem_drop hm)) (by omega)
        rw [hl2] at this
        exact this
      have H1 := Lib.hid h1'
      have H2 := Lib.hid h2'
      have HR1 := Lib.hid (root_length (l.take k))
      have HR2 := Lib.hid (root_length (l.drop k))
      clear h1' h2' hl1 hl2
      clear ih hs hx hk
      generalize l.length = m at *
      obtain ⟨hr1, hr2, hr3⟩ := hr
      have q1 : ((m : Int) == 0) = false := by rw [beq_eq_false_iff_ne]; omega
      have q2 : ((m : Int) == 1) = false := by rw [beq_eq_false_iff_ne]; omega
      go_enter Tryz.func29, Tryz.ntmps29
      go_wp2_with fail
      refine (firstPart_calls m _ h5 (by omega)).mono ?_
      rw [Hk.out]
      rintro e w' ⟨rfl, rfl⟩
      go_wp2_with fail
      have hc0 : ¬ cap = k := by omega
      have hk1 : (k : Int) ≤ (m : Int) := by omega
      have hk2 : (k : Int) ≤ (cap : Int) := by omega
      have hk3 : (m : Int) ≤ (cap : Int) := by omega
      go_region_held3 (fun w' => Hld w w')
        (first
          | exact Hld.start _
          | exact Hld.step (by assumption) b4)
        (first
          | (go_at_call 29; (with_reducible refine (H1.out _ (by assumption)).mono ?_); rintro e w4 ⟨rfl, b4⟩)
          | (go_at_call 29; (with_reducible refine (H2.out _ (by assumption)).mono ?_); rintro e w4 ⟨rfl, b4⟩)
          | (go_at_call 46; (with_reducible refine (Node_calls _ _ _ (Hld.konst (by assumption) HK.out) (by rw [mk_size, HR1.out]; omega) (by rw [mk_size, HR2.out]; omega)).mono ?_); rintro e w4 ⟨rfl, b4⟩))
      go_wp2_with fail
      go_ret
      have hend : Hld w w4 := by assumption
      exact ⟨by rw [HE.out]; rfl, Hid.out hend⟩
    · obtain ⟨x, rfl⟩ : ∃ x, l = [x] := by
        match l, h4, h5 with
        | [x], _, _ => exact ⟨x, rfl⟩
        | _ :: _ :: _, _, h5 => exact absurd (by simp) h5
      have hc : w.cell? ⟨b, o, none⟩ = some (.string ⟨x.toArray⟩) := hs 0 (show 0 < 1 by decide)
      have hxl := Lib.hid (hx x (by simp))
      clear ih hs hx h1 h2 h4 h5
      show Calls _ _ #[.slice (some ⟨b, o, none⟩) 1 cap] _ _
      go_enter Tryz.func29, Tryz.ntmps29
      go_wp2_with fail
      refine (Leaf_calls _ _ HK.out (by rw [mk_size]; have := hxl.out; omega)).mono ?_
      rintro e w4 ⟨rfl, b4⟩
      go_wp2_with fail
      go_ret
      exact ⟨rfl, b4⟩

theorem root_empty (A : Option Addr) (cap : Nat) (w : World) (hK : Konst w) :
    Calls Tryz.prog 29 #[.slice A 0 cap] w fun e W' => e = .returned (.string ⟨(rootF shaF []).toArray⟩) ∧ Below w.heap.size w W' := by
  have HK := Lib.hid hK
  clear hK
  go_enter Tryz.func29, Tryz.ntmps29
  go_wp2_with fail
  refine (Sum_calls _ _ HK.out (by decide)).mono ?_
  rintro e w4 ⟨rfl, b4⟩
  go_wp2_with fail
  go_ret
  exact ⟨rfl, b4⟩

theorem Root_calls (l : List Bs) (A : Option Addr) (cap : Nat) (w : World) (hK : Konst w) (h2 : l.length ≤ 1000000) (h3 : l.length ≤ cap) (hs : Strs w A l) (hx : ∀ x ∈ l, x.length ≤ 1000000000) :
    Calls Tryz.prog 29 #[.slice A l.length cap] w fun e W' => e = .returned (.string ⟨(rootF shaF l).toArray⟩) ∧ Below w.heap.size w W' := by
  rcases hs with rfl | ⟨b, o, rfl, h⟩
  · exact root_empty A cap w hK
  · by_cases h0 : l = []
    · subst h0; exact root_empty _ cap w hK
    · exact root_main l.length l b o cap w hK (Nat.le_refl _) h2 h3 h hx (List.length_pos_iff.2 h0)
/-- A row of strings of one's own. -/
def RowS (w : World) (base : Nat) (v : Value) (l : List Bs) : Prop := w.ownsRow base 9 1 v l.length (cellsS l)
theorem RowS.nil (w : World) (base : Nat) : RowS w base (.slice none 0 0) [] := World.ownsRow_nil _ _ _ _
theorem RowS.below {w w' : World} {base : Nat} {v : Value} {l : List Bs} (h : RowS w base v l) (hb : Below w.heap.size w w') : RowS w' base v l := by
  obtain ⟨h1, h2⟩ := h
  refine ⟨h1, ?_⟩
  rcases h2 with h | ⟨g, cap, cur, hv, hb2, hg, rest⟩
  · exact Or.inl h
  · exact Or.inr ⟨_, _, _, hv, hb2, (hb.block _ (Array.getElem?_eq_some_iff.1 hg).1).trans hg, rest⟩
theorem RowS.snoc {w : World} {base : Nat} {v : Value} {l p : List Bs} {r : Bs} (e : l = p ++ [r]) (h : w.ownsRow base 9 1 v (p.length + 1) (cellsS p ++ [.string ⟨r.toArray⟩])) : RowS w base v l := by
  subst e
  unfold RowS
  rw [cellsS_snoc, List.length_append]
  exact h
/-- How a row reads. -/
theorem RowS.slice {w : World} {base : Nat} {v : Value} {l : List Bs} (h : RowS w base v l) : ∃ A cap, v = .slice A l.length cap ∧ l.length ≤ cap ∧ Strs w A l := by
  have h0 := h
  obtain ⟨h1, h2⟩ := h
  rcases h2 with ⟨rfl, h⟩ | ⟨g, cap, cur, rfl, hb2, hg, hc, rest⟩
  · have : l = [] := List.length_eq_zero_iff.1 h
    subst this
    exact ⟨none, 0, rfl, Nat.le_refl _, Or.inl rfl⟩
  · refine ⟨_, cap, rfl, hc, Or.inr ⟨g, 0, rfl, fun i hi => ?_⟩⟩
    have hcell : (cellsS l)[i]? = some (.string ⟨(l.getD i []).toArray⟩) := by
      unfold cellsS
      rw [List.getElem?_map, List.getElem?_eq_getElem hi, List.getD_eq_getElem?_getD, List.getElem?_eq_getElem hi]
      rfl
    rw [Nat.zero_add, h0.cellAt i (by omega), hcell]
theorem Hld.alloc {w0 w : World} (h : Hld w0 w) (o : Obj) : Hld w0 (w.alloc o) := Lib.hid ((Hid.out h).alloc (Hid.out h).size o)
theorem Hld.grown {w0 w w' : World} {row : Option Nat} (h : Hld w0 w) (hg : w.grownBy w' row) (hr : ∀ k, row = some k → w0.heap.size ≤ k) : Hld w0 w' := Lib.hid ((Hid.out h).grown hg (Hid.out h).size hr)
theorem Hld.size {w0 w : World} (h : Hld w0 w) : w0.heap.size ≤ w.heap.size := (Hid.out h).size

theorem bytes_inj (x y : Bs) (h : x ≠ y) : (⟨x.toArray⟩ : ByteArray) ≠ ⟨y.toArray⟩ := by
  intro e
  apply h
  have := congrArg (fun t : ByteArray => t.data.toList) e
  simpa using this
theorem same_next (a b : List Bs) (k : Nat) (ha : k < a.length) (hb : k < b.length) (h : a.take k = b.take k) (e : a.getD k [] = b.getD k []) : a.take (k + 1) = b.take (k + 1) := by
  rw [List.getD_eq_getElem?_getD, List.getD_eq_getElem?_getD, List.getElem?_eq_getElem ha, List.getElem?_eq_getElem hb] at e
  rw [List.take_succ_eq_append_getElem ha, List.take_succ_eq_append_getElem hb, h]
  simp only [Option.getD_some] at e
  rw [e]

/-- A slice of strings reads as a list: kept apart from the walk's eyes. -/
def HS (w : World) (A : Option Addr) (l : List Bs) : Prop := Hid (Strs w A l)
theorem HS.keep {w w' : World} {A : Option Addr} {l : List Bs} (h : HS w A l) (b : Below w.heap.size w w') : HS w' A l := Lib.hid ((Hid.out h).keep b)
def HK (w : World) : Prop := Hid (Konst w)
theorem HK.keep {w w' : World} (h : HK w) (b : Below w.heap.size w w') : HK w' := Lib.hid ((Hid.out h).keep b)

/-- How a row reads, with its address. -/
theorem RowS.addr {w : World} {base : Nat} {v : Value} {l : List Bs} (h : RowS w base v l) : ∃ A cap, v = .slice A l.length cap ∧ l.length ≤ cap ∧ HS w A l ∧ ((A = none ∧ cap = 0 ∧ l.length = 0) ∨ ∃ g, A = some ⟨g, 0, none⟩) := by
  have h0 := h
  obtain ⟨A, cap, rfl, h1, h2⟩ := h.slice
  refine ⟨A, cap, rfl, h1, Lib.hid h2, ?_⟩
  rcases h0.2 with ⟨h, hl⟩ | ⟨g, cap', cur, h, _⟩
  · injection h with e1 e2 e3; exact Or.inl ⟨e1, e3, hl⟩
  · injection h with e1 e2 e3; exact Or.inr ⟨g, e1⟩
theorem HS.take {w : World} {A : Option Addr} {l : List Bs} (h : HS w A l) (k : Nat) : Strs w A (l.take k) := by
  rcases Hid.out h with rfl | ⟨b, o, rfl, hs⟩
  · left; simp
  · exact (StrsAt.take hs k).strs
theorem take_len (l : List Bs) (k : Nat) (h : k ≤ l.length) : (l.take k).length = k := by rw [List.length_take]; omega
theorem Root_take (l : List Bs) (A : Option Addr) (cap k : Nat) (w : World) (hK : HK w) (h2 : l.length ≤ 1000) (h3 : l.length ≤ cap) (hs : HS w A l) (hx : ∀ x ∈ l, x.length ≤ 60) (hk : k ≤ l.length) :
    Calls Tryz.prog 29 #[.slice A k cap] w fun e W' => e = .returned (.string ⟨(rootF shaF (l.take k)).toArray⟩) ∧ Below w.heap.size w W' := by
  have := Root_calls (l.take k) A cap w (Hid.out hK) (by rw [take_len l k hk]; omega) (by rw [take_len l k hk]; omega) (hs.take k) (fun x hm => by have := hx x (List.mem_of_mem_take hm); omega)
  rw [take_len l k hk] at this
  exact this
theorem Root_all (l : List Bs) (A : Option Addr) (cap : Nat) (w : World) (hK : HK w) (h2 : l.length ≤ 1000) (h3 : l.length ≤ cap) (hs : HS w A l) (hx : ∀ x ∈ l, x.length ≤ 60) :
    Calls Tryz.prog 29 #[.slice A l.length cap] w fun e W' => e = .returned (.string ⟨(rootF shaF l).toArray⟩) ∧ Below w.heap.size w W' :=
  Root_calls l A cap w (Hid.out hK) (by omega) h3 (Hid.out hs) (fun x hm => by have := hx x hm; omega)
/-- Where a slice's cells lie. -/
def Lies (A : Option Addr) (c n : Nat) : Prop := (A = none ∧ c = 0 ∧ n = 0) ∨ ∃ g, A = some ⟨g, 0, none⟩
theorem RowS.one (w : World) (base : Nat) (hb : base ≤ w.heap.size) (r : Bs) : RowS (w.alloc (.cells #[.string ⟨r.toArray⟩] 9)) base (.slice (some ⟨w.heap.size, 0, none⟩) 1 1) [r] :=
  World.ownsRow_lit w #[.string ⟨r.toArray⟩] 1 hb (by unfold maxLen; omega) rfl
set_option maxRecDepth 100000 in
theorem append_rows (base : Nat) (w : World) {v : Value} {l : List Bs} (hv : RowS w base v l) {A : Option Addr} {c : Nat} {m : List Bs} (hs : Strs w A m) (hA : Lies A c m.length) (hb : base ≤ w.heap.size) (hlen : l.length + m.length ≤ 1000000) (ty : TypeId) :
    ∃ v' w', (Builtin.append_ #[24, 24] ty #[v, .slice A m.length c]).run Tryz.prog w = .ok v' w' ∧ RowS w' base v' (l ++ m) ∧ w.grownBy w' v.ownBlock := by
  obtain ⟨i0, hi, hz0, hz1, hz2⟩ := info_parts (show (Tryz.prog.info? 9).map (fun i => (i.zero, i.size, i.bytes)) = some (some (.string ⟨#[]⟩), 1, 16) from by kernel_rfl)
  rcases hA with ⟨rfl, rfl, h⟩ | ⟨g, rfl⟩
  · have hm : m = [] := List.length_eq_zero_iff.1 h
    subst hm
    refine ⟨v, w, run_append_owned_none w base 24 ty 9 i0 1 Tryz.underlying24 hi v l.length (cellsS l) hv, ?_, ⟨rfl, rfl, rfl, Nat.le_refl _, fun _ _ _ => rfl⟩⟩
    rw [List.append_nil]; exact hv
  · obtain ⟨v', w', hr, ho, hg, _, _⟩ := run_append_own_at w base 24 ty 9 i0 (.string ⟨#[]⟩) 1 16 Tryz.underlying24 hi hz0 hz1 hz2 rfl (by decide) v l.length (cellsS l) hv ⟨g, 0, none⟩ m.length c (cellsS m) (by rw [cellsS_length]; omega) (by
      intro j u hu
      have hj : j < m.length := by
        have := (List.getElem?_eq_some_iff.1 hu).1
        rwa [cellsS_length] at this
      rcases hs with h | ⟨b, o, he, hs⟩
      · subst h; simp at hj
      · have he2 := Option.some.inj he
        injection he2 with h1 h2 h3
        subst h1 h2
        have hc := hs j hj
        have e : Addr.add ⟨g, 0, none⟩ j = ⟨g, 0 + j, none⟩ := by unfold Addr.add; split <;> simp_all
        rw [e, hc]
        unfold cellsS at hu
        rw [List.getElem?_map, List.getElem?_eq_getElem hj] at hu
        rw [List.getD_eq_getElem?_getD, List.getElem?_eq_getElem hj]
        exact hu) (by
      intro u hu
      obtain ⟨y, _, rfl⟩ := List.mem_map.1 hu
      rfl) (by unfold maxLen; omega) (by omega) hb
    refine ⟨v', w', hr, ?_, hg⟩
    unfold RowS
    rw [List.length_append, show cellsS (l ++ m) = cellsS l ++ cellsS m from by unfold cellsS; rw [List.map_append]]
    exact ho
theorem wp_append_run {P : Program} {o : Oper} {a : Act} {w : World} {K : Act → World → Prop} {Q : Exit → Act → World → Prop} (s x : Operand) (t : TypeId)
    (ho : o.op = .call { callee := .builtin .append, args := #[s, x], argTypes := #[t, t] }) (v u : Value) (hs : a.eval s = v) (hx : a.eval x = u) {v' : Value} {w' : World}
    (hr : (Builtin.append_ #[t, t] o.type #[v, u]).run P w = .ok v' w') (h : K (a.put o.dst v') w') : o.wp P a w K Q := by
  unfold Oper.wp execOp
  simp only [ho, resolve, invoke, builtin, Sem.run_bind, Sem.run_pure, Result.andThen_ok, List.map_toArray, List.map_cons, List.map_nil, hs, hx, hr]
  exact h
theorem wpList_append_run {P : Program} {ops : Array Oper} {rest : List Oper} {o : Oper} {a : Act} {w : World} {Q : Exit → Act → World → Prop} (hgd : o.guard = none) (s x : Operand) (t : TypeId)
    (ho : o.op = .call { callee := .builtin .append, args := #[s, x], argTypes := #[t, t] }) (v u : Value) (hs : a.eval s = v) (hx : a.eval x = u) {v' : Value} {w' : World}
    (hr : (Builtin.append_ #[t, t] o.type #[v, u]).run P w = .ok v' w') (h : wpList P ops Q rest (a.put o.dst v') w') : wpList P ops Q (o :: rest) a w :=
  wpList_plain hgd fun _ hK => wp_append_run s x t ho v u hs hx hr (hK _ _ h)
theorem step_append_run {P : Program} {ops : Array Oper} {o : Oper} {a : Act} {w : World} {K : Act → World → Prop} {Q : Exit → Act → World → Prop} {E : Prop} (hgd : o.guard = none) (s x : Operand) (t : TypeId)
    (ho : o.op = .call { callee := .builtin .append, args := #[s, x], argTypes := #[t, t] }) (v u : Value) (hs : a.eval s = v) (hx : a.eval x = u) {v' : Value} {w' : World}
    (hr : (Builtin.append_ #[t, t] o.type #[v, u]).run P w = .ok v' w') (h : K (a.put o.dst v') w') :
    if Region.wanted o (yielded ops a.tmps) = true then Oper.wp P o a w K Q else E := by
  have hw : Region.wanted o (yielded ops a.tmps) = true := by simp [Region.wanted, hgd]
  rw [if_pos hw]
  exact wp_append_run s x t ho v u hs hx hr h
theorem RowS.empty (w : World) (base : Nat) (hb : base ≤ w.heap.size) : RowS (w.alloc (.cells #[] 9)) base (.slice (some ⟨w.heap.size, 0, none⟩) 0 0) [] :=
  World.ownsRow_lit w #[] 0 hb (by unfold maxLen; omega) rfl
theorem RowS.oneB (w : World) (base : Nat) (hb : base ≤ w.heap.size) (s : ByteArray) : RowS (w.alloc (.cells #[.string s] 9)) base (.slice (some ⟨w.heap.size, 0, none⟩) 1 1) [s.data.toList] := by
  have := RowS.one w base hb s.data.toList
  rw [mk_eta] at this
  exact this
theorem RowS.alloc {w : World} {base : Nat} {v : Value} {l : List Bs} (h : RowS w base v l) (o : Obj) : RowS (w.alloc o) base v l := World.ownsRow.alloc h o
theorem RowS.lt {w : World} {base : Nat} {v : Value} {l : List Bs} (h : RowS w base v l) : ∀ k, v.ownBlock = some k → base ≤ k := fun k e => (World.ownsRow.lt h k e).1
theorem Strs.oneB (w : World) (s : ByteArray) : Strs (w.alloc (.cells #[.string s] 9)) (some ⟨w.heap.size, 0, none⟩) [s.data.toList] := Or.inr ⟨_, 0, rfl, fun i hi => by
  have h0 : i = 0 := by simpa using hi
  subst h0
  rw [cell_of_row _ _ _ _ _ _ (heap_alloc_new w _)]
  simp⟩
theorem RowS.lies {w : World} {base : Nat} {v : Value} {l : List Bs} (h : RowS w base v l) : ∃ A cap, v = .slice A l.length cap ∧ l.length ≤ cap ∧ HS w A l ∧ Lies A cap l.length := h.addr
end Go.Proofs.YtnndnjnpkjpkpaaGreatDoor
