/- The contract of package factset's Part. -/
import Derived.Test.YtmhphmolbjjopaaDoorUni
namespace Go.Proofs.YtmhphmolbjjopaaDoor
open Go.RowKit Go.Maps Go.Sort Go.Shelf

/-- What Part makes of ids. -/
def partE (es : List Ent) (ids : List (List UInt8)) : List Ent := putAll es [] ids
theorem putAll_len_le {t s : List Ent} (h : Asc s) (ks : List (List UInt8)) : (putAll t s ks).length ≤ s.length + ks.length := by
  unfold putAll
  induction ks generalizing s with
  | nil => simp
  | cons k ks ih =>
    rw [List.foldl_cons, List.length_cons]
    have h1 := ih (putE_asc (k := k) (x := (getE t k).getD (.bool false)) h)
    have h2 : (putE k ((getE t k).getD (.bool false)) s).length ≤ s.length + 1 := by rw [putE_length h]; split <;> omega
    omega
theorem asc_sub_length : ∀ {es xs : List Ent}, Asc xs → Asc es → (∀ k, hasE xs k = true → hasE es k = true) → xs.length ≤ es.length := by
  intro es
  induction es with
  | nil =>
    intro xs _ _ h
    cases xs with
    | nil => exact Nat.le_refl _
    | cons p r => have := h p.1 (by simp [hasE, getE]); simp [hasE, getE] at this
  | cons e es ih =>
    intro xs hx he h
    have hf : (xs.filter fun p => decide (p.1 ≠ e.1)).length ≤ es.length := by
      refine ih (List.Pairwise.filter _ hx) (asc_tail he) (fun k hk => ?_)
      unfold hasE at hk
      cases hg : getE (xs.filter fun p => decide (p.1 ≠ e.1)) k with
      | none => rw [hg] at hk; cases hk
      | some v =>
        have hm := List.mem_filter.1 (getE_mem hg)
        have hne : k ≠ e.1 := by simpa using hm.2
        have := h k (by unfold hasE; rw [mem_getE hx hm.1]; rfl)
        unfold hasE at this ⊢
        unfold getE at this
        rw [if_neg (Ne.symm hne)] at this
        exact this
    have h2 : xs.length ≤ (xs.filter fun p => decide (p.1 ≠ e.1)).length + 1 := by
      clear ih h hf he
      induction xs with
      | nil => simp
      | cons p r ihr =>
        rw [List.filter_cons]
        by_cases hp : p.1 = e.1
        · have hall : ∀ q ∈ r, decide (q.1 ≠ e.1) = true := fun q hq => by
            rw [decide_eq_true_eq]
            intro e'
            have := asc_head hx q hq
            rw [hp, e', ls_irr] at this; cases this
          rw [List.filter_eq_self.2 hall]
          simp [hp]
        · have := ihr (asc_tail hx)
          rw [if_pos (by simpa using hp), List.length_cons, List.length_cons]
          omega
    rw [List.length_cons]
    omega
theorem miss_nil {es : List Ent} {ids : List (List UInt8)} (h : missK es ids = []) : ∀ k ∈ ids, hasE es k = true := by
  intro k hk
  cases hh : hasE es k with
  | true => rfl
  | false =>
    have := (mem_missK es ids k).2 ⟨hk, hh⟩
    rw [h] at this; cases this
theorem partE_asc (es : List Ent) (ids : List (List UInt8)) : Asc (partE es ids) := putAll_asc List.Pairwise.nil ids
theorem partE_get {es : List Ent} {ids : List (List UInt8)} (h : missK es ids = []) (k : List UInt8) : getE (partE es ids) k = if k ∈ ids then getE es k else none := by
  unfold partE
  rw [putAll_get List.Pairwise.nil]
  split
  · rename_i hk
    have h1 := miss_nil h k hk
    unfold hasE at h1
    cases hg : getE es k with
    | none => rw [hg] at h1; cases h1
    | some x => rfl
  · rfl
theorem good_part {es : List Ent} (hG : Good es) {ids : List (List UInt8)} (h : missK es ids = []) : Good (partE es ids) := by
  refine ⟨partE_asc es ids, fun p hp => ?_, ?_⟩
  · have h1 := mem_getE (partE_asc es ids) (k := p.1) (x := p.2) hp
    rw [partE_get h] at h1
    split at h1
    · exact hG.2.1 _ (getE_mem h1)
    · cases h1
  · refine Nat.le_trans (asc_sub_length (partE_asc es ids) hG.1 (fun k hk => ?_)) hG.2.2
    unfold hasE at hk ⊢
    rw [partE_get h] at hk
    split at hk
    · exact hk
    · cases hk
set_option maxRecDepth 100000 in
theorem Part_nil (A : Option Addr) (n cap : Nat) (w : World) : Calls Tryd.prog 26 #[.pointer none, .slice A n cap] w fun e W' => e = .returned (.tuple #[.pointer none, .bool false]) ∧ w = W' := by
  go_enter Tryd.func26, Tryd.ntmps26
  go_wp2_with fail
  go_ret2
  exact ⟨rfl, rfl⟩
set_option maxRecDepth 100000 in
theorem Part_miss (p b : Nat) (es : List Ent) (ids : List Bs) (A : Option Addr) (cap : Nat) (w : World) (hS : SetAt w p b es) (hG : Good es) (hA : Strs w A ids) (hl : ids.length ≤ 1000000) (hc : ids.length ≤ cap) (hx : ∀ x ∈ ids, x.length ≤ 281474976710656) (hm : missK es ids ≠ []) :
    Calls Tryd.prog 26 #[.pointer (some ⟨p, 0, none⟩), .slice A ids.length cap] w fun e W' => e = .returned (.tuple #[.pointer none, .bool false]) ∧ Below w.heap.size w W' := by
  have HM := Lib.hid (Missing_calls (some ⟨p, 0, none⟩) es ids A cap w (.inr ⟨p, b, rfl, hS, hG⟩) hA hl hc hx)
  have k1 : (0 : Int) < ((missK es ids).length : Int) := by
    have := List.length_pos_iff.2 hm
    omega
  clear hS hG hA hl hc hx hm
  generalize missK es ids = M at *
  go_enter Tryd.func26, Tryd.ntmps26
  go_wp2_with fail
  refine HM.out.mono ?_
  rintro e W1 ⟨v, rfl, hrow, -, b1⟩
  obtain ⟨A2, cap2, rfl, hcap2, hs2⟩ := RowS.slice hrow
  clear hrow hs2 HM
  go_wp2_with fail
  go_ret2
  exact ⟨rfl, b1⟩
set_option maxRecDepth 100000 in
set_option maxHeartbeats 2000000 in
theorem Part_has (p b : Nat) (es : List Ent) (ids : List Bs) (A : Option Addr) (cap : Nat) (w : World) (hS : SetAt w p b es) (hG : Good es) (hA : Strs w A ids) (hl : ids.length ≤ 1000000) (hc : ids.length ≤ cap) (hx : ∀ x ∈ ids, x.length ≤ 281474976710656) (hm : missK es ids = []) :
    Calls Tryd.prog 26 #[.pointer (some ⟨p, 0, none⟩), .slice A ids.length cap] w fun e W' => ∃ p' b', e = .returned (.tuple #[.pointer (some ⟨p', 0, none⟩), .bool true]) ∧ SetAt W' p' b' (partE es ids) ∧ w.heap.size ≤ p' ∧ w.heap.size ≤ b' ∧ Below w.heap.size w W' := by
  have HM := Lib.hid (Missing_calls (some ⟨p, 0, none⟩) es ids A cap w (.inr ⟨p, b, rfl, hS, hG⟩) hA hl hc hx)
  rw [hm] at HM
  have HS := Lib.hid hS
  have HA := Lib.hid hA
  have Hat : Hid (∀ k, k < ids.length → ∃ f : Fa, okA f = true ∧ getE es (ids.getD k []) = some (valF f) ∧ ids.getD k [] = keyF f) := Lib.hid (fun k hk => by
    have hmem : ids.getD k [] ∈ ids := by rw [List.getD_eq_getElem?_getD, List.getElem?_eq_getElem hk]; exact List.getElem_mem hk
    have h1 := miss_nil hm _ hmem
    generalize ids.getD k [] = j at *
    unfold hasE at h1
    cases hg : getE es j with
    | none => rw [hg] at h1; cases h1
    | some x =>
      obtain ⟨f, ho, e⟩ := hG.2.1 _ (getE_mem hg)
      cases e
      exact ⟨f, ho, rfl, rfl⟩)
  have Hsc := Lib.hid (fun k hk => putAll_succ es [] ids k hk)
  have Has := Lib.hid (fun k => putAll_asc (t := es) (s := []) List.Pairwise.nil (ids.take k))
  have Hln : Hid (∀ k, k ≤ ids.length → (putAll es [] (ids.take k)).length ≤ 1000000) := Lib.hid (fun k hk => by
    have := putAll_len_le (t := es) (s := []) List.Pairwise.nil (ids.take k)
    rw [List.length_take, List.length_nil] at this
    omega)
  have Hfin : Hid (putAll es [] (ids.take ids.length) = partE es ids) := Lib.hid (by rw [List.take_length]; rfl)
  have H0 : Hid (putAll es [] (ids.take 0) = []) := Lib.hid rfl
  have hlp := hS.ltp
  have hlb := hS.ltb
  clear hS hG hA hx hm
  go_enter Tryd.func26, Tryd.ntmps26
  go_wp2_with fail
  refine HM.out.mono ?_
  rintro e W1 ⟨v, rfl, hrow, hnil, b1⟩
  have hv := hnil.2 (by trivial)
  subst hv
  clear hrow hnil HM
  go_wp2_with fail
  refine (New_calls W1).mono ?_
  rintro e W2 ⟨p', b', rfl, hS2, hp', hb', b2⟩
  have hz1 := b1.size
  have hz2 := b2.size
  have B2 := Lib.hid (b1.trans (b2.mono hz1))
  have S2 := Lib.hid hS2
  clear hS2 b1 b2
  go_wp2_with fail
  go_loopw [21] (fun iv wr => ∃ k : Nat, k ≤ ids.length ∧ iv = .int .i64 k ∧ Hid (SetAt wr p' b' (putAll es [] (ids.take k))) ∧ Hid (Below w.heap.size w wr)) (fun iv _ => ids.length - (intOf iv).toNat)
  case atStart =>
    exact ⟨0, by omega, rfl, Lib.hid (by rw [H0.out]; exact S2.out), B2⟩
  case round =>
    obtain ⟨k, hk, rfl, SR, BR⟩ := hrel
    by_cases hlt : k < ids.length
    · rcases HA.out with hz | ⟨g, o, rfl, hst⟩
      · rw [hz] at hlt; exact absurd hlt (by simp)
      · have c1 : wr.cell? ⟨g, o + k, none⟩ = some (.string ⟨(ids.getD k []).toArray⟩) := (BR.out.cell (p := ⟨g, o + k, none⟩) (lt_of_cell (hst k hlt))).trans (hst k hlt)
        have k1 : (k : Int) < (ids.length : Int) := by omega
        have k0 : 0 ≤ (k : Int) := by omega
        obtain ⟨f, hok, hget, hkey⟩ := Hat.out k hlt
        have hTr := HS.out.below BR.out
        have c2 := hTr.cell
        have hsz : (⟨(ids.getD k []).toArray⟩ : ByteArray).size = 32 := by show (ids.getD k []).length = 32; rw [hkey, keyF_length]
        have hdl : (⟨(ids.getD k []).toArray⟩ : ByteArray).data.toList = ids.getD k [] := by simp
        have hlk := hTr.look ⟨(ids.getD k []).toArray⟩ (by rw [hsz]; decide)
        rw [hdl, show lookE es (ids.getD k []) = .agg (factC f.1 f.2) by unfold lookE; rw [hget]; rfl] at hlk
        have hput := put_calls p' b' _ ⟨(ids.getD k []).toArray⟩ f.1 f.2 wr SR.out (Has.out k) (by have := Hln.out k hk; unfold maxLen; omega) (by rw [hsz]; decide) (by rw [hsz]; decide) (by have := good_text hok; omega)
        have hsucc := Hsc.out k hlt
        rw [hget, show (some (valF f)).getD (Value.bool false) = .agg (factC f.1 f.2) from rfl] at hsucc
        rw [hdl, ← hsucc] at hput
        have HP := Lib.hid hput
        clear hput hsucc hget hkey hsz hdl hok hst hTr SR
        generalize (⟨(ids.getD k []).toArray⟩ : ByteArray) = key at *
        generalize factC f.1 f.2 = c at *
        go_wp2_with fail
        refine HP.out.mono ?_
        rintro e W3 ⟨rfl, hS3, hg3⟩
        have S3 := Lib.hid hS3
        have B3 := Lib.hid (BR.out.grown hg3 BR.out.size (fun j e => by cases e; omega))
        clear hS3 hg3 BR HP c1 c2 hlk
        go_wp2_with fail
        go_roundw
        case rel => exact ⟨k + 1, by omega, by go_num, S3, B3⟩
        case measure => simp [intOf]; omega
    · obtain rfl : k = ids.length := by omega
      rw [Hfin.out] at SR
      go_wp2_with fail
      go_ret2
      exact ⟨p', b', rfl, SR.out, by omega, by omega, BR.out⟩
end Go.Proofs.YtmhphmolbjjopaaDoor
