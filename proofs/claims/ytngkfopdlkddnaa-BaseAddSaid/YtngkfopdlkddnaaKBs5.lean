/- The contract of the reference's SameFacts at equal lists; a base's facts as one ascending list, and what one more fact does to it. -/
import Derived.Test.YtngkfopdlkddnaaKBfs
namespace Go.Proofs.Ytngkfopdlkddnaa
open Go Go.RowKit Go.Maps
set_option maxRecDepth 100000 in
theorem refSame_calls (u v : Nat → Int) (s t : ByteArray) (w : World) : Calls Try.prog 33 #[.agg (factC u s), .agg (factC v t)] w fun e W' => e = .returned (.bool (eqB u v s t)) ∧ Below w.heap.size w W' := by
  have hq := fun W => runEq u v s t W
  go_enter Try.func33, Try.ntmps33
  go_upto_region 1 with (fail)
  obtain ⟨W0, hW0, f0, f1, b0⟩ := two_rows w (factC u s) (factC v t) 29 29
  rw [hW0]
  clear hW0
  have F0 := Lib.hid f0
  have F1 := Lib.hid f1
  clear f0 f1
  go_wp2_with (first
    | (refine wpList_load_row rfl 29 _ rfl w.heap.size rfl _ _ _ _ F0.out Try.underlying29 rfl hiFact ?_)
    | (refine wpList_load_row rfl 29 _ rfl (w.heap.size + 1) rfl _ _ _ _ F1.out Try.underlying29 rfl hiFact ?_))
  go_ret
  exact ⟨rfl, b0⟩
set_option maxRecDepth 100000 in
set_option maxHeartbeats 4000000 in
theorem sameF_calls (L : List Fa) (A B : Option Addr) (ca cb : Nat) (w : World) (hA : FactsS w A L) (hB : FactsS w B L) (hl : L.length ≤ 1000000) :
    Calls Try.prog 15 #[.slice A L.length ca, .slice B L.length cb] w fun e W' => e = .returned (.bool true) ∧ Below w.heap.size w W' := by
  have HA := Lib.hid hA
  have HB := Lib.hid hB
  clear hA hB
  go_enter Try.func15, Try.ntmps15
  go_upto_region 4 with (fail)
  go_loopw [5] (fun iv wr => ∃ k : Nat, k ≤ L.length ∧ iv = .int .i64 k ∧ Hid (Below w.heap.size w wr)) (fun iv _ => L.length - (intOf iv).toNat)
  case atStart => exact ⟨0, by omega, rfl, Lib.hid (Below.refl _ _)⟩
  case round =>
    obtain ⟨k, hk, rfl, HW⟩ := hrel
    have k0 : (0 : Int) ≤ (k : Int) := by omega
    by_cases hlt : k < L.length
    rotate_left
    · obtain rfl : k = L.length := by omega
      have k1 : (L.length : Int) ≤ (L.length : Int) := by omega
      clear hlt hk
      go_wp2_with fail
      go_ret
      exact ⟨rfl, HW.out⟩
    · have k1 : (k : Int) < (L.length : Int) := by omega
      rcases HA.out with hz | ⟨ba, oa, rfl, hsa⟩
      · rw [hz] at hlt; exact absurd hlt (by simp)
      rcases HB.out with hz | ⟨bb, ob, rfl, hsb⟩
      · rw [hz] at hlt; exact absurd hlt (by simp)
      have HAT := Lib.hid (hsa.keep HW.out k hlt)
      have HBT := Lib.hid (hsb.keep HW.out k hlt)
      clear hsa hsb
      generalize L.getD k zeroA = f at *
      obtain ⟨v, t⟩ := f
      have HSM := Lib.hid (fun W => refSame_calls v v t t W)
      rw [(eqB_val (v, t) (v, t)).2 rfl] at HSM
      go_upto_region 6 with (fail)
      refine wp_region_hl wr (Hl.refl _) (by kernel_rfl) (by kernel_rfl) ?_
      repeat (first
        | go_big_quiet_skip
        | (go_big_quiet_want; refine quiet_load_at _ rfl _ _ rfl _ _ HAT.out ?_; simp only [Act.put, List.setIfInBounds_toArray, List.set_cons_zero, List.set_cons_succ]; go_big_quiet_on)
        | (go_big_quiet_want; refine quiet_load_at _ rfl _ _ rfl _ _ HBT.out ?_; simp only [Act.put, List.setIfInBounds_toArray, List.set_cons_zero, List.set_cons_succ]; go_big_quiet_on)
        | (go_big_quiet_want; go_big_quiet_op; first
          | go_big_quiet_on
          | (apply Exists.intro; (with_reducible refine ⟨fun _ => hl_call (HSM.out _), ?_⟩); go_big_quiet_on)))
      refine wpQuiet_nil ?_
      intro W6 h6
      go_wp2_with fail
      go_roundw
      case rel => exact ⟨k + 1, by omega, by go_num, Lib.hid (HW.out.trans (Below.mono h6 HW.out.size))⟩
      case measure => simp [intOf]; omega
/-! ### A base's facts as one list -/
def allX (Ms : Nat → List Fx) (n : Nat) : List Fx := (List.range n).flatMap Ms
theorem allX_succ (Ms : Nat → List Fx) (n : Nat) : allX Ms (n + 1) = allX Ms n ++ Ms n := by unfold allX; rw [List.range_succ, List.flatMap_append]; simp
theorem facts10_all (Ms : Nat → List Fx) : ∀ n, facts10 (fun k => (Ms k).map faX) n = (allX Ms n).map faX
  | 0 => rfl
  | n + 1 => by rw [facts10_succ, allX_succ, List.map_append, facts10_all Ms n]
theorem all_asc {l : List Fa} {Ms : Nat → List Fx} (h : OfP l Ms) : ∀ n, n ≤ 10 → Bs.Asc keyX ltK (allX Ms n) ∧ ∀ x ∈ allX Ms n, (keyX x).1 ≤ (n : Int)
  | 0, _ => ⟨List.Pairwise.nil, fun x hx => by cases hx⟩
  | n + 1, hn => by
    obtain ⟨h1, h2⟩ := all_asc h n (by omega)
    have h3 := h n (by omega)
    have hk : ∀ x ∈ Ms n, (keyX x).1 = (n : Int) + 1 := fun x hx => ((h3.2 x).1 hx).2
    rw [allX_succ]
    refine ⟨List.pairwise_append.2 ⟨h1, h3.1, fun x hx y hy => ?_⟩, fun x hx => ?_⟩
    · have a := h2 x hx
      have b := hk y hy
      exact decide_eq_true (.inl (by omega))
    · rcases List.mem_append.1 hx with hx | hx
      · have := h2 x hx; omega
      · have := hk x hx; omega
theorem all_lst {l : List Fa} {Ms : Nat → List Fx} (h : OfP l Ms) : Bs.Lst okX keyX pvX ltK (fun _ => True) (l.map nfX) (allX Ms 10) := by
  refine ⟨(all_asc h 10 (by omega)).1, fun x => ?_⟩
  have := mem_facts10 h x
  rw [facts10_all] at this
  rw [← this, and_true, List.mem_map]
  constructor
  · intro hx; exact ⟨faX x, List.mem_map_of_mem hx, nf_self x⟩
  · rintro ⟨f, hf, rfl⟩
    obtain ⟨y, hy, rfl⟩ := List.mem_map.1 hf
    rw [nf_self]; exact hy
namespace Bs
section
variable {F K : Type} [DecidableEq K] {ok : F → Bool} {key : F → K} {pv : F → F → Bool} {lt : K → K → Bool}
theorem add_filter (O : Order lt) {l L M : List F} {f : F} (hL : Lst ok key pv lt (fun _ => True) l L) (hM : Lst ok key pv lt (fun _ => True) (l ++ [f]) M) :
    L.filter (fun x => decide (key x ≠ key f)) = M.filter (fun x => decide (key x ≠ key f)) := by
  refine asc_ext (key := key) O (hL.1.filter _) (hM.1.filter _) (fun x => ?_)
  rw [List.mem_filter, List.mem_filter, hL.2 x, hM.2 x, best_snoc]
  by_cases e : key f = key x
  · constructor <;> (rintro ⟨_, h⟩; exact absurd e.symm (of_decide_eq_true h))
  · rw [stepB_off (fun h => e h.2)]
omit [DecidableEq K] in
theorem asc_one (O : Order lt) {L : List F} (h : Asc key lt L) {x y : F} (hx : x ∈ L) (hy : y ∈ L) (e : key x = key y) : x = y := by
  induction L with
  | nil => cases hx
  | cons z r ih =>
    obtain ⟨h1, h2⟩ := List.pairwise_cons.1 h
    rcases List.mem_cons.1 hx with e1 | hx'
    · rcases List.mem_cons.1 hy with e2 | hy'
      · rw [e1, e2]
      · have := h1 y hy'; rw [← e1, e, O.irr] at this; cases this
    · rcases List.mem_cons.1 hy with e2 | hy'
      · have := h1 x hx'; rw [← e2, e, O.irr] at this; cases this
      · exact ih h2 hx' hy'
theorem one_filter (O : Order lt) {L : List F} (h : Asc key lt L) (k : K) : (L.filter (fun x => decide (key x = k))).length = if ∃ x ∈ L, key x = k then 1 else 0 := by
  have ha : Asc key lt (L.filter (fun x => decide (key x = k))) := h.filter _
  by_cases he : ∃ x ∈ L, key x = k
  · rw [if_pos he]
    obtain ⟨x, hx, hk⟩ := he
    have hm : x ∈ L.filter (fun x => decide (key x = k)) := List.mem_filter.2 ⟨hx, decide_eq_true hk⟩
    cases hf : L.filter (fun x => decide (key x = k)) with
    | nil => rw [hf] at hm; cases hm
    | cons a r =>
      cases r with
      | nil => rfl
      | cons b r =>
        rw [hf] at ha
        have h1 := (List.pairwise_cons.1 ha).1 b (by simp)
        have ka : key a = k := of_decide_eq_true (List.mem_filter.1 (by rw [hf]; simp : a ∈ L.filter (fun x => decide (key x = k)))).2
        have kb : key b = k := of_decide_eq_true (List.mem_filter.1 (by rw [hf]; simp : b ∈ L.filter (fun x => decide (key x = k)))).2
        rw [ka, kb, O.irr] at h1; cases h1
  · rw [if_neg he]
    have : L.filter (fun x => decide (key x = k)) = [] := by
      rw [List.filter_eq_nil_iff]
      intro x hx h2
      exact he ⟨x, hx, of_decide_eq_true h2⟩
    rw [this]; rfl
omit [DecidableEq K] in
theorem len_parts (p : F → Bool) : ∀ L : List F, L.length = (L.filter (fun x => !p x)).length + (L.filter p).length
  | [] => rfl
  | x :: r => by
    have := len_parts p r
    cases h : p x
    · rw [List.filter_cons_of_pos (by rw [h]; rfl), List.filter_cons_of_neg (by rw [h]; decide), List.length_cons, List.length_cons]; omega
    · rw [List.filter_cons_of_neg (by rw [h]; decide), List.filter_cons_of_pos h, List.length_cons, List.length_cons]; omega
/-- The fact that stands there afterwards. -/
def wantX (ok : F → Bool) (key : F → K) (pv : F → F → Bool) (l : List F) (f : F) : F := match best ok key pv l (key f) with | none => f | some g => if pv f g = true then f else g
theorem want_best {l : List F} {f : F} (hf : ok f = true) : best ok key pv (l ++ [f]) (key f) = some (wantX ok key pv l f) := by
  rw [best_snoc]
  unfold wantX
  cases best ok key pv l (key f) with
  | none => exact stepB_none ⟨hf, rfl⟩
  | some g => rw [stepB_some ⟨hf, rfl⟩]; dsimp only; split <;> rfl
theorem want_key (H : Laws ok key pv) {l : List F} {f : F} (hf : ok f = true) : key (wantX ok key pv l f) = key f := (best_some H (want_best hf)).2.2.1
theorem want_only {l M : List F} {f : F} (hf : ok f = true) (hM : Lst ok key pv lt (fun _ => True) (l ++ [f]) M) {y : F} (hy : y ∈ M) (hk : key y = key f) : y = wantX ok key pv l f := by
  have h1 := ((hM.2 y).1 hy).1
  rw [hk, want_best hf] at h1
  exact (Option.some.inj h1).symm
theorem add_has (H : Laws ok key pv) {l M : List F} {f : F} (hf : ok f = true) (hM : Lst ok key pv lt (fun _ => True) (l ++ [f]) M) : wantX ok key pv l f ∈ M :=
  (hM.2 _).2 ⟨by rw [want_key H hf]; exact want_best hf, trivial⟩
theorem want_known {l L : List F} {f : F} (hL : Lst ok key pv lt (fun _ => True) l L) {x : F} (hx : x ∈ L) (hk : key x = key f) : wantX ok key pv l f = if pv f x = true then f else x := by
  have h1 := ((hL.2 x).1 hx).1
  rw [hk] at h1
  unfold wantX
  rw [h1]
theorem want_new (H : Laws ok key pv) {l L : List F} {f : F} (hL : Lst ok key pv lt (fun _ => True) l L) (hno : ∀ x ∈ L, key x ≠ key f) : wantX ok key pv l f = f := by
  unfold wantX
  cases hb : best ok key pv l (key f) with
  | none => rfl
  | some g => exact absurd (best_some H hb).2.2.1 (hno g ((hL.2 g).2 ⟨by rw [(best_some H hb).2.2.1]; exact hb, trivial⟩))
theorem add_len (H : Laws ok key pv) (O : Order lt) {l L M : List F} {f : F} (hf : ok f = true) (hL : Lst ok key pv lt (fun _ => True) l L) (hM : Lst ok key pv lt (fun _ => True) (l ++ [f]) M) :
    M.length = if ∃ x ∈ L, key x = key f then L.length else L.length + 1 := by
  have h1 := len_parts (fun x => decide (key x = key f)) L
  have h2 := len_parts (fun x => decide (key x = key f)) M
  have e : (fun x : F => !decide (key x = key f)) = (fun x => decide (key x ≠ key f)) := by funext x; rw [decide_not]
  rw [e] at h1 h2
  rw [one_filter O hL.1] at h1
  rw [one_filter O hM.1, if_pos ⟨_, add_has H hf hM, want_key H hf⟩, ← add_filter O hL hM] at h2
  split at h1 <;> rename_i h3
  · rw [if_pos h3]; omega
  · rw [if_neg h3]; omega
end
end Bs
end Go.Proofs.Ytngkfopdlkddnaa
