/- Contracts in the form that the walks of layer 2's laws use: few, Proof and Extension for every index, Same of equal lists. -/
import Derived.Test.YtinioifhbafngaaDoorSane2
import Derived.Test.YtinioifhbafngaaDoorRefPath
import Derived.Test.YtinioifhbafngaaDoorRefPart
import Derived.Test.YtinioifhbafngaaDoorSame
namespace Go.Proofs.YtinioifhbafngaaDoor
open Go.RowKit

/-- A slice of strings reads as a list: kept apart from the walk's eyes. -/
def HS (w : World) (A : Option Addr) (l : List Bs) : Prop := Hid (Strs w A l)
theorem HS.keep {w w' : World} {A : Option Addr} {l : List Bs} (h : HS w A l) (b : Below w.heap.size w w') : HS w' A l := Lib.hid ((Hid.out h).keep b)
def HK (w : World) : Prop := Hid (Konst w)
theorem HK.keep {w w' : World} (h : HK w) (b : Below w.heap.size w w') : HK w' := Lib.hid ((Hid.out h).keep b)

theorem fewL_length (l : List Bs) (n : Nat) : (fewL l n).length ≤ n := by unfold fewL; rw [List.length_map, List.length_take]; omega
theorem fewL_60 (l : List Bs) (n : Nat) : ∀ x ∈ fewL l n, x.length ≤ 60 := by
  intro x hx
  unfold fewL at hx
  obtain ⟨y, _, rfl⟩ := List.mem_map.1 hx
  rw [List.length_take]; omega
theorem few_calls (l : List Bs) (A : Option Addr) (cap n : Nat) (w : World) (hn : n ≤ 100) (hs : Strs w A l) (hx : ∀ x ∈ l, x.length ≤ 9223372036854775807) (hl : l.length ≤ 9223372036854775807) :
    Calls Tryd.prog 20 #[.slice A l.length cap, .int .i64 (n : Int)] w fun e W' => (∃ v, e = .returned v ∧ RowS W' w.heap.size v (fewL l n)) ∧ Below w.heap.size w W' := by
  rcases hs with rfl | ⟨b, o, rfl, h⟩
  · refine (few_nil A cap n w).mono ?_
    rintro e W' ⟨rfl, b⟩
    exact ⟨⟨_, rfl, by rw [show fewL [] n = [] from by simp [fewL]]; exact RowS.nil _ _⟩, b⟩
  · exact few_main l b o cap n w hn h hx hl

def prF (l : List Bs) (i : Int) : List Bs := if 0 ≤ i ∧ i < l.length then proofF shaF l i.toNat else []
def prE (l : List Bs) (i : Int) : Int := if 0 ≤ i ∧ i < l.length then 0 else 2
def exF (l : List Bs) (i : Int) : List Bs := if 0 ≤ i ∧ i ≤ l.length then extF shaF l i.toNat else []
def exE (l : List Bs) (i : Int) : Int := if 0 ≤ i ∧ i ≤ l.length then 0 else 2
/-- A pair of a row and a number. -/
def PairAns (w : World) (base : Nat) (l : List Bs) (z : Int) (e : Ending) : Prop := ∃ A cap, e = .returned (.tuple #[.slice A l.length cap, .int .i64 z]) ∧ l.length ≤ cap ∧ HS w A l ∧ (∃ v, v = .slice A l.length cap ∧ Hid (RowS w base v l))
theorem PairAns.of {w : World} {base : Nat} {v : Value} {l : List Bs} {z : Int} {e : Ending} (he : e = .returned (.tuple #[v, .int .i64 z])) (h : RowS w base v l) : PairAns w base l z e := by
  obtain ⟨A, cap, rfl, h1, h2⟩ := h.slice
  exact ⟨A, cap, he, h1, Lib.hid h2, _, rfl, Lib.hid h⟩
theorem Proof_any (l : List Bs) (A : Option Addr) (cap : Nat) (i : Int) (w : World) (hK : Konst w) (h2 : l.length ≤ 1000) (h3 : l.length ≤ cap) (hs : Strs w A l) (hx : ∀ x ∈ l, x.length ≤ 60) :
    Calls Tryd.prog 21 #[.slice A l.length cap, .int .i64 i] w fun e W' => PairAns W' w.heap.size (prF l i) (prE l i) e ∧ Below w.heap.size w W' := by
  unfold prF prE
  by_cases h : 0 ≤ i ∧ i < l.length
  · rw [if_pos h, if_pos h]
    have := Proof_in l A cap i.toNat w hK (by omega) h3 hs (fun x hm => by have := hx x hm; omega) (by omega)
    rw [Int.toNat_of_nonneg h.1] at this
    refine this.mono ?_
    rintro e W' ⟨⟨v, he, hv⟩, b⟩
    exact ⟨PairAns.of he hv, b⟩
  · rw [if_neg h, if_neg h]
    refine (Proof_out l.length A cap i w (by omega)).mono ?_
    rintro e W' ⟨he, b⟩
    exact ⟨PairAns.of he (RowS.nil _ _), b⟩
theorem refProof_any (l : List Bs) (A : Option Addr) (cap : Nat) (i : Int) (w : World) (h2 : l.length ≤ 1000) (h3 : l.length ≤ cap) (hs : Strs w A l) (hx : ∀ x ∈ l, x.length ≤ 60) :
    Calls Tryd.prog 22 #[.slice A l.length cap, .int .i64 i] w fun e W' => PairAns W' w.heap.size (prF l i) (prE l i) e ∧ Below w.heap.size w W' := by
  unfold prF prE
  by_cases h : 0 ≤ i ∧ i < l.length
  · rw [if_pos h, if_pos h]
    have := refProof_in l A cap i.toNat w (by omega) h3 hs (fun x hm => by have := hx x hm; omega) (by omega)
    rw [Int.toNat_of_nonneg h.1] at this
    refine this.mono ?_
    rintro e W' ⟨⟨v, he, hv⟩, b⟩
    exact ⟨PairAns.of he hv, b⟩
  · rw [if_neg h, if_neg h]
    refine (refProof_out l.length A cap i w (by omega)).mono ?_
    rintro e W' ⟨he, b⟩
    exact ⟨PairAns.of he (RowS.nil _ _), b⟩
theorem Extension_any (l : List Bs) (A : Option Addr) (cap : Nat) (i : Int) (w : World) (hK : Konst w) (h2 : l.length ≤ 1000) (h3 : l.length ≤ cap) (hs : Strs w A l) (hx : ∀ x ∈ l, x.length ≤ 60) :
    Calls Tryd.prog 23 #[.slice A l.length cap, .int .i64 i] w fun e W' => PairAns W' w.heap.size (exF l i) (exE l i) e ∧ Below w.heap.size w W' := by
  unfold exF exE
  by_cases h : 0 ≤ i ∧ i ≤ l.length
  · rw [if_pos h, if_pos h]
    have := Extension_in l A cap i.toNat w hK (by omega) h3 hs (fun x hm => by have := hx x hm; omega) (by omega)
    rw [Int.toNat_of_nonneg h.1] at this
    refine this.mono ?_
    rintro e W' ⟨⟨v, he, hv⟩, b⟩
    exact ⟨PairAns.of he hv, b⟩
  · rw [if_neg h, if_neg h]
    refine (Extension_out l.length A cap i w (by omega)).mono ?_
    rintro e W' ⟨he, b⟩
    exact ⟨PairAns.of he (RowS.nil _ _), b⟩
theorem refExtension_any (l : List Bs) (A : Option Addr) (cap : Nat) (i : Int) (w : World) (h2 : l.length ≤ 1000) (h3 : l.length ≤ cap) (hs : Strs w A l) (hx : ∀ x ∈ l, x.length ≤ 60) :
    Calls Tryd.prog 24 #[.slice A l.length cap, .int .i64 i] w fun e W' => PairAns W' w.heap.size (exF l i) (exE l i) e ∧ Below w.heap.size w W' := by
  unfold exF exE
  by_cases h : 0 ≤ i ∧ i ≤ l.length
  · rw [if_pos h, if_pos h]
    have := refExtension_in l A cap i.toNat w (by omega) h3 hs (fun x hm => by have := hx x hm; omega) (by omega)
    rw [Int.toNat_of_nonneg h.1] at this
    refine this.mono ?_
    rintro e W' ⟨⟨v, he, hv⟩, b⟩
    exact ⟨PairAns.of he hv, b⟩
  · rw [if_neg h, if_neg h]
    refine (refExtension_out l.length A cap i w (by omega)).mono ?_
    rintro e W' ⟨he, b⟩
    exact ⟨PairAns.of he (RowS.nil _ _), b⟩
theorem pow6 (l : List Bs) (h : l.length ≤ 60) : l.length ≤ 2 ^ 6 := by omega
theorem prF_length (l : List Bs) (i : Int) (h : l.length ≤ 60) : (prF l i).length ≤ 6 := by
  unfold prF
  split
  · exact proofF_length shaF l _ 6 (pow6 l h)
  · simp
theorem exF_length (l : List Bs) (i : Int) (h : l.length ≤ 60) : (exF l i).length ≤ 7 := by
  unfold exF
  split
  · by_cases h0 : i.toNat = 0
    · rw [h0, extF_zero]; simp
    · rw [extF_part shaF l _ (by omega)]
      exact partF_length shaF l _ true 6 (pow6 l h) (by omega) (by omega)
  · simp
theorem prF_32 (l : List Bs) (i : Int) : ∀ x ∈ prF l i, x.length = 32 := by
  unfold prF
  split
  · exact proofF_32 shaF shaF_length l _
  · intro x hx; simp at hx
theorem exF_32 (l : List Bs) (i : Int) : ∀ x ∈ exF l i, x.length = 32 := by
  unfold exF
  split
  · exact extF_32 shaF shaF_length l _
  · intro x hx; simp at hx

theorem same_nil (A B : Option Addr) (ca cb : Nat) (w : World) :
    Calls Tryd.prog 25 #[.slice A 0 ca, .slice B 0 cb] w fun e W' => e = .returned (.bool true) ∧ Below w.heap.size w W' := by
  go_enter Tryd.func25, Tryd.ntmps25
  go_wp2_with fail
  go_loop [5] (fun iv => iv = .int .i64 0) (fun _ => 0)
  case atStart => exact rfl
  case round =>
    obtain rfl := hrel
    go_wp2_with fail
    go_ret
    exact ⟨rfl, Below.refl _ _⟩
theorem same_eq (l : List Bs) (A B : Option Addr) (ca cb : Nat) (w : World) (hA : Strs w A l) (hB : Strs w B l) (hl : l.length ≤ 1000000) :
    Calls Tryd.prog 25 #[.slice A l.length ca, .slice B l.length cb] w fun e W' => e = .returned (.bool true) ∧ Below w.heap.size w W' := by
  by_cases h0 : l = []
  · subst h0; exact same_nil A B ca cb w
  · rcases hA with h | ⟨ba, oa, rfl, hA⟩
    · exact absurd h h0
    rcases hB with h | ⟨bb, ob, rfl, hB⟩
    · exact absurd h h0
    refine (same_main l l ba oa ca bb ob cb w rfl hA hB hl).mono ?_
    rintro e W' ⟨rfl, b⟩
    exact ⟨by rw [decide_eq_true rfl], b⟩
/-- How a row reads, with its address. -/
theorem RowS.addr {w : World} {base : Nat} {v : Value} {l : List Bs} (h : RowS w base v l) : ∃ A cap, v = .slice A l.length cap ∧ l.length ≤ cap ∧ HS w A l ∧ ((A = none ∧ cap = 0 ∧ l.length = 0) ∨ ∃ g, A = some ⟨g, 0, none⟩) := by
  have h0 := h
  obtain ⟨A, cap, rfl, h1, h2⟩ := h.slice
  refine ⟨A, cap, rfl, h1, Lib.hid h2, ?_⟩
  rcases h0.2 with ⟨h, hl⟩ | ⟨g, cap', cur, h, _⟩
  · injection h with e1 e2 e3; exact Or.inl ⟨e1, e3, hl⟩
  · injection h with e1 e2 e3; exact Or.inr ⟨g, e1⟩
theorem HS.take {w : World} {A : Option Addr} {l : List Bs} (h : HS w A l) (k : Nat) : Strs w A (l.take k) := by
  rcases Hid.out h with rfl | ⟨b, o, rfl, hs⟩
  · left; simp
  · exact (StrsAt.take hs k).strs
theorem take_len (l : List Bs) (k : Nat) (h : k ≤ l.length) : (l.take k).length = k := by rw [List.length_take]; omega
theorem Root_take (l : List Bs) (A : Option Addr) (cap k : Nat) (w : World) (hK : HK w) (h2 : l.length ≤ 1000) (h3 : l.length ≤ cap) (hs : HS w A l) (hx : ∀ x ∈ l, x.length ≤ 60) (hk : k ≤ l.length) :
    Calls Tryd.prog 26 #[.slice A k cap] w fun e W' => e = .returned (.string ⟨(rootF shaF (l.take k)).toArray⟩) ∧ Below w.heap.size w W' := by
  have := Root_calls (l.take k) A cap w (Hid.out hK) (by rw [take_len l k hk]; omega) (by rw [take_len l k hk]; omega) (hs.take k) (fun x hm => by have := hx x (List.mem_of_mem_take hm); omega)
  rw [take_len l k hk] at this
  exact this
theorem Root_all (l : List Bs) (A : Option Addr) (cap : Nat) (w : World) (hK : HK w) (h2 : l.length ≤ 1000) (h3 : l.length ≤ cap) (hs : HS w A l) (hx : ∀ x ∈ l, x.length ≤ 60) :
    Calls Tryd.prog 26 #[.slice A l.length cap] w fun e W' => e = .returned (.string ⟨(rootF shaF l).toArray⟩) ∧ Below w.heap.size w W' :=
  Root_calls l A cap w (Hid.out hK) (by omega) h3 (Hid.out hs) (fun x hm => by have := hx x hm; omega)
theorem verEB_ext (l : List Bs) (k : Nat) (hk : k ≤ l.length) : verEB (rootF shaF (l.take k)) (k : Int) (rootF shaF l) (l.length : Int) (extF shaF l k) = true := by
  unfold verEB
  rw [decide_eq_true_iff]
  refine ⟨by omega, by omega, root_length _, root_length _, extF_32 shaF shaF_length l k, ?_⟩
  by_cases h0 : k = 0
  · subst h0
    rw [if_pos (show ((0 : Nat) : Int) = 0 from rfl)]
    exact ⟨rfl, rfl⟩
  · rw [if_neg (by omega), Int.toNat_natCast, Int.toNat_natCast, both_ext shaF l k (by omega) hk]
    exact ⟨rfl, rfl, rfl⟩
theorem verEB_out (old : Bs) (m : Int) (root : Bs) (n : Int) (p : List Bs) (h : ¬ (0 ≤ m ∧ m ≤ n)) : verEB old m root n p = false := by
  unfold verEB
  rw [decide_eq_false_iff_not]
  exact fun h' => h ⟨h'.1, h'.2.1⟩
theorem extF_short (l : List Bs) (k : Nat) (hk : k ≤ l.length) : (extF shaF l k).length ≤ 2 * binN l.length := by
  by_cases h0 : k = 0
  · subst h0; rw [extF_zero]; simp
  · rw [extF_part shaF l k (by omega)]
    have h1 := partF_length shaF l k true (binN l.length) (Nat.le_of_lt (binN_lt _)) (by omega) hk
    have h2 : 1 ≤ binN l.length := by
      rw [binN_step l.length (by omega)]; omega
    omega
theorem VerifyExtension_any (old : Bs) (m : Int) (root : Bs) (n : Int) (p : List Bs) (A : Option Addr) (cap : Nat) (w : World) (hK : HK w) (hn : n ≤ 9223372036854775807) (hp : p.length ≤ 1000) (hc : p.length ≤ cap) (hs : HS w A p)
    (hx : ∀ x ∈ p, x.length ≤ 60) (ho : old.length ≤ 9223372036854775807) (hr : root.length ≤ 9223372036854775807) :
    Calls Tryd.prog 30 #[.string ⟨old.toArray⟩, .int .i64 m, .string ⟨root.toArray⟩, .int .i64 n, .slice A p.length cap] w fun e W' => e = .returned (.bool (verEB old m root n p)) ∧ Below w.heap.size w W' :=
  VerifyExtension_calls ⟨old.toArray⟩ m ⟨root.toArray⟩ n p A cap w (Hid.out hK) hn hp hc (Hid.out hs) (fun x hm => by have := hx x hm; omega) ho hr
theorem Verify_any (root : Bs) (n i : Int) (s : Bs) (p : List Bs) (A : Option Addr) (cap : Nat) (w : World) (hK : HK w) (hn : n ≤ 9223372036854775807) (hp : p.length ≤ 1000) (hc : p.length ≤ cap) (hs : HS w A p)
    (hx : ∀ x ∈ p, x.length ≤ 60) (hsz : s.length ≤ 1000000000) :
    Calls Tryd.prog 29 #[.string ⟨root.toArray⟩, .int .i64 n, .int .i64 i, .string ⟨s.toArray⟩, .slice A p.length cap] w fun e W' => e = .returned (.bool (verB root n i s p)) ∧ Below w.heap.size w W' :=
  Verify_calls ⟨root.toArray⟩ n i ⟨s.toArray⟩ p A cap w (Hid.out hK) hn hp hc (Hid.out hs) (fun x hm => by have := hx x hm; omega) hsz
end Go.Proofs.YtinioifhbafngaaDoor
