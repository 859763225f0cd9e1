/- The walk of FactOrder. Conditions: the table of constants reads as the program lays it; the variable errForm holds an error of its own. | Trees of digests: plain mathematics, the program's Leaf, Node and Root, the reference's; words for rows of strings. -/
import Derived.Test.YtngkfopdlkddnaaK15
import Derived.Test.YtngkfopdlkddnaaK10
import Derived.WalkKit
import Derived.WalkSpells
import Derived.WalkLawsBesides
import Derived.Lib.Hide
import Derived.IntWalk
import Derived.Maps.AppendAt
namespace Go.Proofs.Ytngkfopdlkddnaa
open Go.RowKit
theorem pv_some (u v : Nat → Int) (s t : ByteArray) (h : pvB u s v t = true) : okT u s = true ∧ okT v t = true ∧ kyB u v = true ∧ (v 2 < u 2 ∨ (u 2 = v 2 ∧ Op.bytesLess (encV v t.data.toList) (encV u s.data.toList) = true)) := by
  unfold pvB at h
  simp only [Bool.and_eq_true, Bool.or_eq_true, decide_eq_true_eq] at h
  exact h
theorem pv_mk (u v : Nat → Int) (s t : ByteArray) (h : okT u s = true ∧ okT v t = true ∧ kyB u v = true ∧ (v 2 < u 2 ∨ (u 2 = v 2 ∧ Op.bytesLess (encV v t.data.toList) (encV u s.data.toList) = true))) : pvB u s v t = true := by
  unfold pvB
  simp only [Bool.and_eq_true, Bool.or_eq_true, decide_eq_true_eq]
  exact h
theorem ky_sym (u v : Nat → Int) : kyB u v = kyB v u := decide_eq_decide.2 ⟨fun ⟨a, b⟩ => ⟨a.symm, b.symm⟩, fun ⟨a, b⟩ => ⟨a.symm, b.symm⟩⟩
theorem pv_irr (u : Nat → Int) (s : ByteArray) : pvB u s u s = false := by
  rcases h : pvB u s u s with _ | _
  · rfl
  · obtain ⟨-, -, -, h1 | ⟨-, h1⟩⟩ := pv_some _ _ _ _ h
    · omega
    · rw [bl_irr] at h1; cases h1
theorem pv_asym (u v : Nat → Int) (s t : ByteArray) (h : pvB u s v t = true) : pvB v t u s = false := by
  rcases h' : pvB v t u s with _ | _
  · rfl
  · obtain ⟨-, -, -, h1⟩ := pv_some _ _ _ _ h
    obtain ⟨-, -, -, h2⟩ := pv_some _ _ _ _ h'
    rcases h1 with h1 | ⟨h1, h3⟩
    · rcases h2 with h2 | ⟨h2, -⟩ <;> omega
    · rcases h2 with h2 | ⟨h2, h4⟩
      · omega
      · have := bl_trans _ _ _ h3 h4
        rw [bl_irr] at this; cases this
theorem pv_neq (u v : Nat → Int) (s t : ByteArray) (h : pvB u s v t = true) : eqB u v s t = false := by
  rcases hc : eqB u v s t with _ | _
  · rfl
  · obtain ⟨h1, h2⟩ := (eqB_iff _ _ _ _).1 hc
    obtain ⟨-, -, -, h3 | ⟨-, h3⟩⟩ := pv_some _ _ _ _ h
    · rw [h1 2 (by omega)] at h3; omega
    · rw [Lib.toList_data, Lib.toList_data] at h2
      rw [h2, encV_congr u v _ h1, bl_irr] at h3; cases h3
theorem pv_total (u v : Nat → Int) (s t : ByteArray) (hu : okT u s = true) (hv : okT v t = true) (hk : kyB u v = true) (h1 : pvB u s v t = false) (h2 : pvB v t u s = false) : eqB u v s t = true := by
  rw [← code_eq u v s t hu hv, beq_iff_eq]
  have h2' : u 2 = v 2 := by
    rcases Int.lt_trichotomy (u 2) (v 2) with h | h | h
    · rw [pv_mk v u t s ⟨hv, hu, (ky_sym u v).symm.trans hk, .inl h⟩] at h2; cases h2
    · exact h
    · rw [pv_mk u v s t ⟨hu, hv, hk, .inl h⟩] at h1; cases h1
  by_cases he : encV u s.data.toList = encV v t.data.toList
  · exact he
  · have := bl_tri _ _ he
    rcases hb : Op.bytesLess (encV u s.data.toList) (encV v t.data.toList) with _ | _
    · rw [hb] at this
      rw [pv_mk u v s t ⟨hu, hv, hk, .inr ⟨h2', by simpa using this.symm⟩⟩] at h1; cases h1
    · rw [pv_mk v u t s ⟨hv, hu, (ky_sym u v).symm.trans hk, .inr ⟨h2'.symm, hb⟩⟩] at h2; cases h2
theorem pv_trans (u v x : Nat → Int) (s t r : ByteArray) (h : pvB u s v t = true) (h' : pvB v t x r = true) : pvB u s x r = true := by
  obtain ⟨a1, -, a3, h1⟩ := pv_some _ _ _ _ h
  obtain ⟨-, b2, b3, h2⟩ := pv_some _ _ _ _ h'
  refine pv_mk _ _ _ _ ⟨a1, b2, ?_, ?_⟩
  · obtain ⟨c1, c2⟩ := of_decide_eq_true a3
    obtain ⟨d1, d2⟩ := of_decide_eq_true b3
    exact decide_eq_true ⟨c1.trans d1, c2.trans d2⟩
  · rcases h1 with h1 | ⟨h1, h3⟩
    · left; rcases h2 with h2 | ⟨h2, -⟩ <;> omega
    · rcases h2 with h2 | ⟨h2, h4⟩
      · left; omega
      · right; exact ⟨by omega, bl_trans _ _ _ h4 h3⟩
theorem pv_ge (u v : Nat → Int) (s t : ByteArray) (h : pvB u s v t = true) : v 2 ≤ u 2 := by
  obtain ⟨-, -, -, h1⟩ := pv_some _ _ _ _ h
  omega
theorem Prevails_eq (u v : Nat → Int) (s t : ByteArray) (c : Bool) (h : pvB u s v t = c) (w : World) : Calls Try.prog 17 #[.agg (factC u s), .agg (factC v t)] w fun e W' => e = .returned (.bool c) ∧ Below w.heap.size w W' := h ▸ Prevails_calls u v s t w

end Go.Proofs.Ytngkfopdlkddnaa
namespace Go.Proofs.Ytngkfopdlkddnaa
open Go.RowKit
theorem sha_len (s : List UInt8) : (shaF s).length = 32 := rfl
theorem leftA_spec (f k n j : Nat) (hk : k = 2 ^ j) (hn : k < n) (hf : n ≤ k + f) : ∃ i, leftA f k n = 2 ^ i ∧ 2 ^ i < n ∧ n ≤ 2 ^ (i + 1) := by
  induction f generalizing k j with
  | zero => omega
  | succ f ih =>
    unfold leftA
    have hp : 0 < 2 ^ j := Nat.two_pow_pos j
    by_cases h : k < n - k
    · rw [if_pos h]
      exact ih (2 * k) (j + 1) (by rw [hk, Nat.pow_succ, Nat.mul_comm]) (by omega) (by omega)
    · rw [if_neg h]
      exact ⟨j, hk, by omega, by rw [Nat.pow_succ]; omega⟩
theorem left_spec (n : Nat) (h : 2 ≤ n) : ∃ i, left n = 2 ^ i ∧ 2 ^ i < n ∧ n ≤ 2 ^ (i + 1) := leftA_spec n 1 n 0 rfl (by omega) (by omega)
theorem left_range (n : Nat) (h : 2 ≤ n) : 1 ≤ left n ∧ left n < n ∧ n - left n ≤ left n := by
  obtain ⟨i, h1, h2, h3⟩ := left_spec n h
  have hp : 0 < 2 ^ i := Nat.two_pow_pos i
  rw [Nat.pow_succ] at h3
  omega
theorem left_pow (n d : Nat) (h : 2 ≤ n) (hd : n ≤ 2 ^ (d + 1)) : left n ≤ 2 ^ d ∧ n - left n ≤ 2 ^ d := by
  obtain ⟨i, h1, h2, h3⟩ := left_spec n h
  have hi : i < d + 1 := (Nat.pow_lt_pow_iff_right (show 1 < 2 by omega)).1 (Nat.lt_of_lt_of_le h2 hd)
  have h4 : 2 ^ i ≤ 2 ^ d := Nat.pow_le_pow_right (by omega) (by omega)
  have := left_range n h
  omega

section
variable (hs : Bs → Bs)

def leafF (s : Bs) : Bs := hs (0 :: s)
def nodeF (a b : Bs) : Bs := hs (1 :: (a ++ b))
def chainF (h r : Bs) : Bs := hs (2 :: (h ++ r))

def rootA : Nat → List Bs → Bs
  | 0, _ => hs []
  | f + 1, l =>
    match l with
    | [] => hs []
    | [x] => leafF hs x
    | l => nodeF hs (rootA f (l.take (left l.length))) (rootA f (l.drop (left l.length)))
def rootF (l : List Bs) : Bs := rootA hs l.length l

theorem rootA_two (f : Nat) (l : List Bs) (h : 2 ≤ l.length) : rootA hs (f + 1) l = nodeF hs (rootA hs f (l.take (left l.length))) (rootA hs f (l.drop (left l.length))) := by
  match l, h with
  | _ :: _ :: _, _ => rfl
theorem rootA_fuel (f g : Nat) (l : List Bs) (hf : l.length ≤ f) (hg : l.length ≤ g) : rootA hs f l = rootA hs g l := by
  induction f generalizing g l with
  | zero =>
    have hl : l = [] := List.length_eq_zero_iff.1 (by omega)
    subst hl
    cases g <;> rfl
  | succ f ih =>
    cases g with
    | zero =>
      have hl : l = [] := List.length_eq_zero_iff.1 (by omega)
      subst hl; rfl
    | succ g =>
      by_cases h : 2 ≤ l.length
      · have hr := left_range _ h
        rw [rootA_two hs f l h, rootA_two hs g l h]
        rw [ih g (l.take (left l.length)) (by rw [List.length_take]; omega) (by rw [List.length_take]; omega), ih g (l.drop (left l.length)) (by rw [List.length_drop]; omega) (by rw [List.length_drop]; omega)]
      · match l, h with
        | [], _ => rfl
        | [_], _ => rfl
        | _ :: _ :: _, h => simp at h
theorem root_nil : rootF hs [] = hs [] := rfl
theorem root_one (x : Bs) : rootF hs [x] = leafF hs x := rfl
theorem root_two (l : List Bs) (h : 2 ≤ l.length) : rootF hs l = nodeF hs (rootF hs (l.take (left l.length))) (rootF hs (l.drop (left l.length))) := by
  have hr := left_range _ h
  unfold rootF
  obtain ⟨n, hn⟩ : ∃ n, l.length = n + 1 := ⟨l.length - 1, by omega⟩
  conv => lhs; rw [hn]
  rw [rootA_two hs n l h]
  rw [rootA_fuel hs n _ (l.take (left l.length)) (by rw [List.length_take]; omega) (Nat.le_refl _), rootA_fuel hs n _ (l.drop (left l.length)) (by rw [List.length_drop]; omega) (Nat.le_refl _)]

/-! ### Proofs of entries -/

end
theorem ret_int {k : IntKind} {a b : Int} (h : a = b) : Ending.returned (.int k a) = .returned (.int k b) := by rw [h]

theorem leftA_next (f k n : Nat) (h1 : 1 ≤ k) (hk : k < n) (hf : n ≤ k + f) (h : k < n - k) : ∃ g, leftA f k n = leftA g (2 * k) n ∧ n ≤ 2 * k + g := by
  cases f with
  | zero => omega
  | succ f => exact ⟨f, by rw [leftA, if_pos h], by omega⟩
theorem leftA_last (f k n : Nat) (h : ¬ k < n - k) : leftA f k n = k := by
  cases f with
  | zero => rfl
  | succ f => rw [leftA, if_neg h]

theorem one_bytes (b : UInt8) (s : ByteArray) : ((⟨#[b]⟩ : ByteArray) ++ s).data.toList = b :: s.data.toList := by
  rw [ByteArray.data_append]; simp
theorem two_bytes (b : UInt8) (s t : ByteArray) : ((⟨#[b]⟩ : ByteArray) ++ s ++ t).data.toList = b :: (s.data.toList ++ t.data.toList) := by
  rw [ByteArray.data_append, ByteArray.data_append]; simp
theorem one_size (b : UInt8) (s : ByteArray) : ((⟨#[b]⟩ : ByteArray) ++ s).size = s.size + 1 := by
  rw [ByteArray.size_append]; show 1 + _ = _; omega
theorem two_size (b : UInt8) (s t : ByteArray) : ((⟨#[b]⟩ : ByteArray) ++ s ++ t).size = s.size + t.size + 1 := by
  rw [ByteArray.size_append, one_size]; omega

theorem root_length (l : List Bs) : (rootF shaF l).length = 32 := by
  by_cases h : 2 ≤ l.length
  · rw [root_two shaF l h]; exact sha_len _
  · match l, h with
    | [], _ => exact sha_len _
    | [_], _ => exact sha_len _
    | _ :: _ :: _, h => exact absurd (by simp) h
/-- What a walk holds from call to call: a slice of strings reads as before, and nothing that was there has changed. -/
def Holds (w0 : World) (b o : Nat) (l : List Bs) (w : World) : Prop := Hid (StrsAt w b o l ∧ Below w0.heap.size w0 w)
theorem Holds.step {w0 w w' : World} {b o : Nat} {l : List Bs} (h : Holds w0 b o l w) (hb : Below w.heap.size w w') : Holds w0 b o l w' :=
  Lib.hid ⟨(Hid.out h).1.keep hb, (Hid.out h).2.trans (hb.mono (Hid.out h).2.size)⟩
theorem Holds.start {w : World} {b o : Nat} {l : List Bs} (h : StrsAt w b o l) : Holds w b o l w.drew := Lib.hid ⟨h, (Below.refl _ _).drew⟩
theorem data_length (t : ByteArray) : t.data.toList.length = t.size := by simp

/-- What a walk holds from call to call: nothing that was there has changed. -/
def Hld (w0 w : World) : Prop := Hid (Below w0.heap.size w0 w)
theorem Hld.step {w0 w w' : World} (h : Hld w0 w) (hb : Below w.heap.size w w') : Hld w0 w' := Lib.hid ((Hid.out h).trans (hb.mono (Hid.out h).size))
theorem Hld.start (w : World) : Hld w w.drew := Lib.hid (Below.refl _ _).drew
theorem Hld.refl (w : World) : Hld w w := Lib.hid (Below.refl _ _)
theorem Hld.strsAt {w0 w : World} (h : Hld w0 w) {b o : Nat} {l : List Bs} (hs : StrsAt w0 b o l) : StrsAt w b o l := hs.keep (Hid.out h)
theorem Hld.strs {w0 w : World} (h : Hld w0 w) {A : Option Addr} {l : List Bs} (hs : Strs w0 A l) : Strs w A l := hs.keep (Hid.out h)
theorem StrsAt.strs {w : World} {b o : Nat} {l : List Bs} (h : StrsAt w b o l) : Strs w (some ⟨b, o, none⟩) l := Or.inr ⟨b, o, rfl, h⟩

/-- A row of strings of one's own. -/
def RowS (w : World) (base : Nat) (v : Value) (l : List Bs) : Prop := w.ownsRow base 9 1 v l.length (cellsS l)
theorem RowS.nil (w : World) (base : Nat) : RowS w base (.slice none 0 0) [] := World.ownsRow_nil _ _ _ _
theorem RowS.below {w w' : World} {base : Nat} {v : Value} {l : List Bs} (h : RowS w base v l) (hb : Below w.heap.size w w') : RowS w' base v l := by
  obtain ⟨h1, h2⟩ := h
  refine ⟨h1, ?_⟩
  rcases h2 with h | ⟨g, cap, cur, hv, hb2, hg, rest⟩
  · exact Or.inl h
  · exact Or.inr ⟨_, _, _, hv, hb2, (hb.block _ (Array.getElem?_eq_some_iff.1 hg).1).trans hg, rest⟩
theorem RowS.snoc {w : World} {base : Nat} {v : Value} {l p : List Bs} {r : Bs} (e : l = p ++ [r]) (h : w.ownsRow base 9 1 v (p.length + 1) (cellsS p ++ [.string ⟨r.toArray⟩])) : RowS w base v l := by
  subst e
  unfold RowS
  rw [cellsS_snoc, List.length_append]
  exact h
/-- How a row reads. -/
theorem RowS.slice {w : World} {base : Nat} {v : Value} {l : List Bs} (h : RowS w base v l) : ∃ A cap, v = .slice A l.length cap ∧ l.length ≤ cap ∧ Strs w A l := by
  have h0 := h
  obtain ⟨h1, h2⟩ := h
  rcases h2 with ⟨rfl, h⟩ | ⟨g, cap, cur, rfl, hb2, hg, hc, rest⟩
  · have : l = [] := List.length_eq_zero_iff.1 h
    subst this
    exact ⟨none, 0, rfl, Nat.le_refl _, Or.inl rfl⟩
  · refine ⟨_, cap, rfl, hc, Or.inr ⟨g, 0, rfl, fun i hi => ?_⟩⟩
    have hcell : (cellsS l)[i]? = some (.string ⟨(l.getD i []).toArray⟩) := by
      unfold cellsS
      rw [List.getElem?_map, List.getElem?_eq_getElem hi, List.getD_eq_getElem?_getD, List.getElem?_eq_getElem hi]
      rfl
    rw [Nat.zero_add, h0.cellAt i (by omega), hcell]
theorem Hld.alloc {w0 w : World} (h : Hld w0 w) (o : Obj) : Hld w0 (w.alloc o) := Lib.hid ((Hid.out h).alloc (Hid.out h).size o)
theorem Hld.grown {w0 w w' : World} {row : Option Nat} (h : Hld w0 w) (hg : w.grownBy w' row) (hr : ∀ k, row = some k → w0.heap.size ≤ k) : Hld w0 w' := Lib.hid ((Hid.out h).grown hg (Hid.out h).size hr)
theorem Hld.size {w0 w : World} (h : Hld w0 w) : w0.heap.size ≤ w.heap.size := (Hid.out h).size

theorem bytes_inj (x y : Bs) (h : x ≠ y) : (⟨x.toArray⟩ : ByteArray) ≠ ⟨y.toArray⟩ := by
  intro e
  apply h
  have := congrArg (fun t : ByteArray => t.data.toList) e
  simpa using this
theorem same_next (a b : List Bs) (k : Nat) (ha : k < a.length) (hb : k < b.length) (h : a.take k = b.take k) (e : a.getD k [] = b.getD k []) : a.take (k + 1) = b.take (k + 1) := by
  rw [List.getD_eq_getElem?_getD, List.getD_eq_getElem?_getD, List.getElem?_eq_getElem ha, List.getElem?_eq_getElem hb] at e
  rw [List.take_succ_eq_append_getElem ha, List.take_succ_eq_append_getElem hb, h]
  simp only [Option.getD_some] at e
  rw [e]

/-- A slice of strings reads as a list: kept apart from the walk's eyes. -/
def HS (w : World) (A : Option Addr) (l : List Bs) : Prop := Hid (Strs w A l)
theorem HS.keep {w w' : World} {A : Option Addr} {l : List Bs} (h : HS w A l) (b : Below w.heap.size w w') : HS w' A l := Lib.hid ((Hid.out h).keep b)
/-- How a row reads, with its address. -/
theorem RowS.addr {w : World} {base : Nat} {v : Value} {l : List Bs} (h : RowS w base v l) : ∃ A cap, v = .slice A l.length cap ∧ l.length ≤ cap ∧ HS w A l ∧ ((A = none ∧ cap = 0 ∧ l.length = 0) ∨ ∃ g, A = some ⟨g, 0, none⟩) := by
  have h0 := h
  obtain ⟨A, cap, rfl, h1, h2⟩ := h.slice
  refine ⟨A, cap, rfl, h1, Lib.hid h2, ?_⟩
  rcases h0.2 with ⟨h, hl⟩ | ⟨g, cap', cur, h, _⟩
  · injection h with e1 e2 e3; exact Or.inl ⟨e1, e3, hl⟩
  · injection h with e1 e2 e3; exact Or.inr ⟨g, e1⟩
theorem HS.take {w : World} {A : Option Addr} {l : List Bs} (h : HS w A l) (k : Nat) : Strs w A (l.take k) := by
  rcases Hid.out h with rfl | ⟨b, o, rfl, hs⟩
  · left; simp
  · exact (StrsAt.take hs k).strs
theorem take_len (l : List Bs) (k : Nat) (h : k ≤ l.length) : (l.take k).length = k := by rw [List.length_take]; omega
/-- Where a slice's cells lie. -/
def Lies (A : Option Addr) (c n : Nat) : Prop := (A = none ∧ c = 0 ∧ n = 0) ∨ ∃ g, A = some ⟨g, 0, none⟩
theorem RowS.one (w : World) (base : Nat) (hb : base ≤ w.heap.size) (r : Bs) : RowS (w.alloc (.cells #[.string ⟨r.toArray⟩] 9)) base (.slice (some ⟨w.heap.size, 0, none⟩) 1 1) [r] :=
  World.ownsRow_lit w #[.string ⟨r.toArray⟩] 1 hb (by unfold maxLen; omega) rfl
set_option maxRecDepth 100000 in
theorem append_rows (base : Nat) (w : World) {v : Value} {l : List Bs} (hv : RowS w base v l) {A : Option Addr} {c : Nat} {m : List Bs} (hs : Strs w A m) (hA : Lies A c m.length) (hb : base ≤ w.heap.size) (hlen : l.length + m.length ≤ 1000000) (ty : TypeId) :
    ∃ v' w', (Builtin.append_ #[67, 67] ty #[v, .slice A m.length c]).run Try.prog w = .ok v' w' ∧ RowS w' base v' (l ++ m) ∧ w.grownBy w' v.ownBlock := by
  obtain ⟨i0, hi, hz0, hz1, hz2⟩ := info_parts (show (Try.prog.info? 9).map (fun i => (i.zero, i.size, i.bytes)) = some (some (.string ⟨#[]⟩), 1, 16) from by kernel_rfl)
  rcases hA with ⟨rfl, rfl, h⟩ | ⟨g, rfl⟩
  · have hm : m = [] := List.length_eq_zero_iff.1 h
    subst hm
    refine ⟨v, w, run_append_owned_none w base 67 ty 9 i0 1 Try.underlying67 hi v l.length (cellsS l) hv, ?_, ⟨rfl, rfl, rfl, Nat.le_refl _, fun _ _ _ => rfl⟩⟩
    rw [List.append_nil]; exact hv
  · obtain ⟨v', w', hr, ho, hg, _, _⟩ := run_append_own_at w base 67 ty 9 i0 (.string ⟨#[]⟩) 1 16 Try.underlying67 hi hz0 hz1 hz2 rfl (by decide) v l.length (cellsS l) hv ⟨g, 0, none⟩ m.length c (cellsS m) (by rw [cellsS_length]; omega) (by
      intro j u hu
      have hj : j < m.length := by
        have := (List.getElem?_eq_some_iff.1 hu).1
        rwa [cellsS_length] at this
      rcases hs with h | ⟨b, o, he, hs⟩
      · subst h; simp at hj
      · have he2 := Option.some.inj he
        injection he2 with h1 h2 h3
        subst h1 h2
        have hc := hs j hj
        have e : Addr.add ⟨g, 0, none⟩ j = ⟨g, 0 + j, none⟩ := by unfold Addr.add; split <;> simp_all
        rw [e, hc]
        unfold cellsS at hu
        rw [List.getElem?_map, List.getElem?_eq_getElem hj] at hu
        rw [List.getD_eq_getElem?_getD, List.getElem?_eq_getElem hj]
        exact hu) (by
      intro u hu
      obtain ⟨y, _, rfl⟩ := List.mem_map.1 hu
      rfl) (by unfold maxLen; omega) (by omega) hb
    refine ⟨v', w', hr, ?_, hg⟩
    unfold RowS
    rw [List.length_append, show cellsS (l ++ m) = cellsS l ++ cellsS m from by unfold cellsS; rw [List.map_append]]
    exact ho
theorem wp_append_run {P : Program} {o : Oper} {a : Act} {w : World} {K : Act → World → Prop} {Q : Exit → Act → World → Prop} (s x : Operand) (t : TypeId)
    (ho : o.op = .call { callee := .builtin .append, args := #[s, x], argTypes := #[t, t] }) (v u : Value) (hs : a.eval s = v) (hx : a.eval x = u) {v' : Value} {w' : World}
    (hr : (Builtin.append_ #[t, t] o.type #[v, u]).run P w = .ok v' w') (h : K (a.put o.dst v') w') : o.wp P a w K Q := by
  unfold Oper.wp execOp
  simp only [ho, resolve, invoke, builtin, Sem.run_bind, Sem.run_pure, Result.andThen_ok, List.map_toArray, List.map_cons, List.map_nil, hs, hx, hr]
  exact h
theorem wpList_append_run {P : Program} {ops : Array Oper} {rest : List Oper} {o : Oper} {a : Act} {w : World} {Q : Exit → Act → World → Prop} (hgd : o.guard = none) (s x : Operand) (t : TypeId)
    (ho : o.op = .call { callee := .builtin .append, args := #[s, x], argTypes := #[t, t] }) (v u : Value) (hs : a.eval s = v) (hx : a.eval x = u) {v' : Value} {w' : World}
    (hr : (Builtin.append_ #[t, t] o.type #[v, u]).run P w = .ok v' w') (h : wpList P ops Q rest (a.put o.dst v') w') : wpList P ops Q (o :: rest) a w :=
  wpList_plain hgd fun _ hK => wp_append_run s x t ho v u hs hx hr (hK _ _ h)
theorem step_append_run {P : Program} {ops : Array Oper} {o : Oper} {a : Act} {w : World} {K : Act → World → Prop} {Q : Exit → Act → World → Prop} {E : Prop} (hgd : o.guard = none) (s x : Operand) (t : TypeId)
    (ho : o.op = .call { callee := .builtin .append, args := #[s, x], argTypes := #[t, t] }) (v u : Value) (hs : a.eval s = v) (hx : a.eval x = u) {v' : Value} {w' : World}
    (hr : (Builtin.append_ #[t, t] o.type #[v, u]).run P w = .ok v' w') (h : K (a.put o.dst v') w') :
    if Region.wanted o (yielded ops a.tmps) = true then Oper.wp P o a w K Q else E := by
  have hw : Region.wanted o (yielded ops a.tmps) = true := by simp [Region.wanted, hgd]
  rw [if_pos hw]
  exact wp_append_run s x t ho v u hs hx hr h
theorem RowS.empty (w : World) (base : Nat) (hb : base ≤ w.heap.size) : RowS (w.alloc (.cells #[] 9)) base (.slice (some ⟨w.heap.size, 0, none⟩) 0 0) [] :=
  World.ownsRow_lit w #[] 0 hb (by unfold maxLen; omega) rfl
theorem RowS.oneB (w : World) (base : Nat) (hb : base ≤ w.heap.size) (s : ByteArray) : RowS (w.alloc (.cells #[.string s] 9)) base (.slice (some ⟨w.heap.size, 0, none⟩) 1 1) [s.data.toList] := by
  have := RowS.one w base hb s.data.toList
  rw [mk_eta] at this
  exact this
theorem RowS.alloc {w : World} {base : Nat} {v : Value} {l : List Bs} (h : RowS w base v l) (o : Obj) : RowS (w.alloc o) base v l := World.ownsRow.alloc h o
theorem RowS.lt {w : World} {base : Nat} {v : Value} {l : List Bs} (h : RowS w base v l) : ∀ k, v.ownBlock = some k → base ≤ k := fun k e => (World.ownsRow.lt h k e).1
theorem Strs.oneB (w : World) (s : ByteArray) : Strs (w.alloc (.cells #[.string s] 9)) (some ⟨w.heap.size, 0, none⟩) [s.data.toList] := Or.inr ⟨_, 0, rfl, fun i hi => by
  have h0 : i = 0 := by simpa using hi
  subst h0
  rw [cell_of_row _ _ _ _ _ _ (heap_alloc_new w _)]
  simp⟩
theorem RowS.lies {w : World} {base : Nat} {v : Value} {l : List Bs} (h : RowS w base v l) : ∃ A cap, v = .slice A l.length cap ∧ l.length ≤ cap ∧ HS w A l ∧ Lies A cap l.length := h.addr
end Go.Proofs.Ytngkfopdlkddnaa
