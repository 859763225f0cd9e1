/- The contract of package factset's Union. -/
import Derived.Test.YtmhphmolbjjopaaDoorMis
namespace Go.Proofs.YtmhphmolbjjopaaDoor
open Go.RowKit Go.Maps Go.Sort Go.Shelf

theorem putAll_succ (t s : List Ent) (ks : List (List UInt8)) (k : Nat) (h : k < ks.length) : putAll t s (ks.take (k + 1)) = putE (ks.getD k []) ((getE t (ks.getD k [])).getD (.bool false)) (putAll t s (ks.take k)) := by
  unfold putAll
  rw [List.take_succ_eq_append_getElem h, List.foldl_append, List.getD_eq_getElem?_getD, List.getElem?_eq_getElem h]
  rfl
/-- An element that is missing is one of the other set. -/
theorem miss_at {s t : List Ent} (ht : Asc t) (hF : Facts t) (k : Nat) (h : k < (missK s (idsE t)).length) :
    ∃ f : Fa, okA f = true ∧ getE t ((missK s (idsE t)).getD k []) = some (valF f) ∧ (missK s (idsE t)).getD k [] = keyF f := by
  have hm : (missK s (idsE t)).getD k [] ∈ missK s (idsE t) := by
    rw [List.getD_eq_getElem?_getD, List.getElem?_eq_getElem h]; exact List.getElem_mem h
  obtain ⟨h1, h2⟩ := (mem_missK _ _ _).1 hm
  generalize (missK s (idsE t)).getD k [] = j at *
  have h3 := (mem_keys ht j).1 h1
  unfold hasE at h3
  cases hg : getE t j with
  | none => rw [hg] at h3; cases h3
  | some x =>
    obtain ⟨f, ho, e⟩ := hF _ (getE_mem hg)
    cases e
    exact ⟨f, ho, rfl, rfl⟩
theorem putAll_take_length {s t : List Ent} (hs : Asc s) (k : Nat) (h : k ≤ (missK s (idsE t)).length) : (putAll t s ((missK s (idsE t)).take k)).length = s.length + k := by
  have h1 : (missK s (idsE t)).Pairwise (· ≠ ·) := keys_apart (missE_asc _ _)
  rw [putAll_length hs _ (h1.sublist (List.take_sublist _ _)) (fun j hj => ((mem_missK _ _ _).1 (List.mem_of_mem_take hj)).2), List.length_take]
  omega
def uniErr (s t : List Ent) : Int := if s.length + (missK s (idsE t)).length ≤ 4000 then 0 else 60
def uniS (s t : List Ent) : List Ent := if s.length + (missK s (idsE t)).length ≤ 4000 then uniE s t else s
theorem good_uni {s t : List Ent} (hs : Good s) (ht : Good t) : Good (uniS s t) := by
  unfold uniS
  split
  · rename_i h
    exact ⟨uniE_asc hs.1, uniE_facts hs ht, by rw [uniE_length hs.1]; exact h⟩
  · exact hs

theorem grown_trans {A B C : World} {row : Option Nat} (h : A.grownBy B row) (k : B.grownBy C row) : A.grownBy C row :=
  ⟨k.os.trans h.os, k.tape.trans h.tape, k.output.trans h.output, Nat.le_trans h.size k.size, fun i hi hr => (k.block i (Nat.lt_of_lt_of_le hi h.size) hr).trans (h.block i hi hr)⟩
set_option maxRecDepth 100000 in
theorem Union_nil1 (q : Option Addr) (w : World) : Calls Tryd.prog 21 #[.pointer none, .pointer q] w fun e W' => e = .returned (.int .i64 1) ∧ w = W' := by
  go_enter Tryd.func21, Tryd.ntmps21
  go_wp2_with fail
  go_ret
  exact ⟨rfl, rfl⟩
set_option maxRecDepth 100000 in
theorem Union_nil2 (p : Addr) (w : World) : Calls Tryd.prog 21 #[.pointer (some p), .pointer none] w fun e W' => e = .returned (.int .i64 1) ∧ w = W' := by
  go_enter Tryd.func21, Tryd.ntmps21
  go_wp2_with fail
  go_ret
  exact ⟨rfl, rfl⟩

set_option maxRecDepth 100000 in
set_option maxHeartbeats 2000000 in
theorem Union_full (p b r d : Nat) (es ts : List Ent) (w : World) (hS : SetAt w p b es) (hT : SetAt w r d ts) (gS : Good es) (gT : Good ts) (_hbd : b ≠ d) (_hbr : b ≠ r) (hfit : 4000 < es.length + (missK es (idsE ts)).length) :
    Calls Tryd.prog 21 #[.pointer (some ⟨p, 0, none⟩), .pointer (some ⟨r, 0, none⟩)] w fun e W' => e = .returned (.int .i64 60) ∧ SetAt W' p b es ∧ w.grownBy W' (some b) := by
  have hlS := gS.2.2
  have hlT := gT.2.2
  have hMl : (missK es (idsE ts)).length ≤ 4000 := by
    have := missK_length_le es (idsE ts)
    unfold idsE at this ⊢
    rw [List.length_map] at this
    omega
  have hIl : (idsE ts).length ≤ 4000 := by unfold idsE; rw [List.length_map]; exact hlT
  have hIx : ∀ x ∈ idsE ts, x.length ≤ 281474976710656 := by
    intro x hx
    unfold idsE at hx
    obtain ⟨y, hy, rfl⟩ := List.mem_map.1 hx
    rw [good_key gT hy]; decide
  have HI := Lib.hid (IDs_calls (some ⟨r, 0, none⟩) ts w (.inr ⟨r, d, rfl, hT, gT⟩))
  rw [show ts.map (·.1) = idsE ts from rfl] at HI
  have HM := Lib.hid (fun (W : World) (h : Below w.heap.size w W) (A : Option Addr) (cap : Nat) (hc : (idsE ts).length ≤ cap) (hs : Strs W A (idsE ts)) =>
    Missing_calls (some ⟨p, 0, none⟩) es (idsE ts) A cap W (.inr ⟨p, b, rfl, hS.below h, gS⟩) hs (by omega) hc hIx)
  have HL := Lib.hid (fun (W : World) (h : Below w.heap.size w W) => Len_calls p b es W (hS.below h))
  have hbl := hS.ltb
  have Hat := Lib.hid (fun k hk => miss_at (s := es) gT.1 gT.2.1 k hk)
  have Hln := Lib.hid (fun k hk => putAll_take_length (s := es) (t := ts) gS.1 k hk)
  have Hsc := Lib.hid (fun k hk => putAll_succ ts es (missK es (idsE ts)) k hk)
  have Has := Lib.hid (fun k => putAll_asc (t := ts) gS.1 ((missK es (idsE ts)).take k))
  have Hfin : Hid (putAll ts es ((missK es (idsE ts)).take (missK es (idsE ts)).length) = uniE es ts) := Lib.hid (by rw [List.take_length]; rfl)
  have HS := Lib.hid hS
  have HT := Lib.hid hT
  have H0 : Hid (putAll ts es ((missK es (idsE ts)).take 0) = es) := Lib.hid rfl
  clear gS gT hS hT hIx hlT
  generalize hMM : missK es (idsE ts) = M at *
  clear hMM
  generalize idsE ts = I at *
  have k1 : (4000 : Int) < (es.length : Int) + (M.length : Int) := by omega
  go_enter Tryd.func21, Tryd.ntmps21
  go_wp2_with fail
  refine HI.out.mono ?_
  rintro e W1 ⟨v, rfl, hrow, b1⟩
  obtain ⟨A, cap, rfl, hcap, hs⟩ := RowS.slice hrow
  have hcall := HM.out W1 b1 A cap hcap hs
  have B1 := Lib.hid b1
  clear hrow hcap hs b1 HI HM
  go_wp2_with fail
  refine hcall.mono ?_
  rintro e W2 ⟨v, rfl, hrow, -, b2⟩
  have hge := RowS.lt hrow
  obtain ⟨A2, cap2, rfl, hcap2, hs2⟩ := RowS.slice hrow
  have hz1 := B1.out.size
  have B2 := Lib.hid (B1.out.trans (b2.mono hz1))
  have HA := Lib.hid hs2
  have hl2 := HL.out W2 B2.out
  clear hcall hrow hs2 b2 B1 HL
  go_wp2_with fail
  refine hl2.mono ?_
  rintro e W2' ⟨rfl, rfl⟩
  clear hl2
  go_wp2_with fail
  go_ret
  exact ⟨rfl, HS.out.below B2.out, grown_but (grown_of_below B2.out) _⟩
set_option maxRecDepth 100000 in
set_option maxHeartbeats 2000000 in
theorem Union_fit (p b r d : Nat) (es ts : List Ent) (w : World) (hS : SetAt w p b es) (hT : SetAt w r d ts) (gS : Good es) (gT : Good ts) (hbd : b ≠ d) (hbr : b ≠ r) (hfit : es.length + (missK es (idsE ts)).length ≤ 4000) :
    Calls Tryd.prog 21 #[.pointer (some ⟨p, 0, none⟩), .pointer (some ⟨r, 0, none⟩)] w fun e W' => e = .returned (.int .i64 0) ∧ SetAt W' p b (uniE es ts) ∧ w.grownBy W' (some b) := by
  have hlS := gS.2.2
  have hlT := gT.2.2
  have hMl : (missK es (idsE ts)).length ≤ 4000 := by
    have := missK_length_le es (idsE ts)
    unfold idsE at this ⊢
    rw [List.length_map] at this
    omega
  have hIl : (idsE ts).length ≤ 4000 := by unfold idsE; rw [List.length_map]; exact hlT
  have hIx : ∀ x ∈ idsE ts, x.length ≤ 281474976710656 := by
    intro x hx
    unfold idsE at hx
    obtain ⟨y, hy, rfl⟩ := List.mem_map.1 hx
    rw [good_key gT hy]; decide
  have HI := Lib.hid (IDs_calls (some ⟨r, 0, none⟩) ts w (.inr ⟨r, d, rfl, hT, gT⟩))
  rw [show ts.map (·.1) = idsE ts from rfl] at HI
  have HM := Lib.hid (fun (W : World) (h : Below w.heap.size w W) (A : Option Addr) (cap : Nat) (hc : (idsE ts).length ≤ cap) (hs : Strs W A (idsE ts)) =>
    Missing_calls (some ⟨p, 0, none⟩) es (idsE ts) A cap W (.inr ⟨p, b, rfl, hS.below h, gS⟩) hs (by omega) hc hIx)
  have HL := Lib.hid (fun (W : World) (h : Below w.heap.size w W) => Len_calls p b es W (hS.below h))
  have hbl := hS.ltb
  have Hat := Lib.hid (fun k hk => miss_at (s := es) gT.1 gT.2.1 k hk)
  have Hln := Lib.hid (fun k hk => putAll_take_length (s := es) (t := ts) gS.1 k hk)
  have Hsc := Lib.hid (fun k hk => putAll_succ ts es (missK es (idsE ts)) k hk)
  have Has := Lib.hid (fun k => putAll_asc (t := ts) gS.1 ((missK es (idsE ts)).take k))
  have Hfin : Hid (putAll ts es ((missK es (idsE ts)).take (missK es (idsE ts)).length) = uniE es ts) := Lib.hid (by rw [List.take_length]; rfl)
  have HS := Lib.hid hS
  have HT := Lib.hid hT
  have H0 : Hid (putAll ts es ((missK es (idsE ts)).take 0) = es) := Lib.hid rfl
  clear gS gT hS hT hIx hlT
  generalize hMM : missK es (idsE ts) = M at *
  clear hMM
  generalize idsE ts = I at *
  have k1 : (es.length : Int) + (M.length : Int) ≤ 4000 := by omega
  go_enter Tryd.func21, Tryd.ntmps21
  go_wp2_with fail
  refine HI.out.mono ?_
  rintro e W1 ⟨v, rfl, hrow, b1⟩
  obtain ⟨A, cap, rfl, hcap, hs⟩ := RowS.slice hrow
  have hcall := HM.out W1 b1 A cap hcap hs
  have B1 := Lib.hid b1
  clear hrow hcap hs b1 HI HM
  go_wp2_with fail
  refine hcall.mono ?_
  rintro e W2 ⟨v, rfl, hrow, -, b2⟩
  have hge := RowS.lt hrow
  obtain ⟨A2, cap2, rfl, hcap2, hs2⟩ := RowS.slice hrow
  have hz1 := B1.out.size
  have B2 := Lib.hid (B1.out.trans (b2.mono hz1))
  have HA := Lib.hid hs2
  have hl2 := HL.out W2 B2.out
  clear hcall hrow hs2 b2 B1 HL
  go_wp2_with fail
  refine hl2.mono ?_
  rintro e W2' ⟨rfl, rfl⟩
  clear hl2
  go_wp2_with fail
  have hfar : ∀ g o, A2 = some ⟨g, o, none⟩ → w.heap.size ≤ g := fun g o e => by
    subst e
    have := hge g rfl
    omega
  have hz2 := B2.out.size
  have S2 := Lib.hid (HS.out.below B2.out)
  have T2 := Lib.hid (HT.out.below B2.out)
  clear hge k1
  go_loopw [26] (fun iv wr => ∃ k : Nat, k ≤ M.length ∧ iv = .int .i64 k ∧ Hid (SetAt wr p b (putAll ts es (M.take k))) ∧ Hid (W2.grownBy wr (some b))) (fun iv _ => M.length - (intOf iv).toNat)
  case atStart =>
    exact ⟨0, by omega, rfl, Lib.hid (by rw [H0.out]; exact S2.out), Lib.hid (grown_but (grown_of_below (Below.refl _ _)) _)⟩
  case round =>
    obtain ⟨k, hk, rfl, SR, GR⟩ := hrel
    by_cases hlt : k < M.length
    · rcases HA.out with hz | ⟨g, o, rfl, hst⟩
      · rw [hz] at hlt; exact absurd hlt (by simp)
      · have hg := hfar g o rfl
        have c1 : wr.cell? ⟨g, o + k, none⟩ = some (.string ⟨(M.getD k []).toArray⟩) := by
          have h1 := hst k hlt
          rw [World.grownBy.cell_far GR.out ⟨g, o + k, none⟩ (lt_of_cell h1) (fun e => by have := Option.some.inj e; simp only at this; omega)]
          exact h1
        have k1 : (k : Int) < (M.length : Int) := by omega
        have k0 : 0 ≤ (k : Int) := by omega
        obtain ⟨f, hok, hget, hkey⟩ := Hat.out k hlt
        have hTr := T2.out.keep GR.out (fun e => hbr (Option.some.inj e)) (fun e => hbd (Option.some.inj e))
        have c2 := hTr.cell
        have hsz : (⟨(M.getD k []).toArray⟩ : ByteArray).size = 32 := by show (M.getD k []).length = 32; rw [hkey, keyF_length]
        have hdl : (⟨(M.getD k []).toArray⟩ : ByteArray).data.toList = M.getD k [] := by simp
        have hlk := hTr.look ⟨(M.getD k []).toArray⟩ (by rw [hsz]; decide)
        rw [hdl, show lookE ts (M.getD k []) = .agg (factC f.1 f.2) by unfold lookE; rw [hget]; rfl] at hlk
        have hput := put_calls p b _ ⟨(M.getD k []).toArray⟩ f.1 f.2 wr SR.out (Has.out k) (by rw [Hln.out k hk]; unfold maxLen; omega) (by rw [hsz]; decide) (by rw [hsz]; decide) (by have := good_text hok; omega)
        have hsucc := Hsc.out k hlt
        rw [hget, show (some (valF f)).getD (Value.bool false) = .agg (factC f.1 f.2) from rfl] at hsucc
        rw [hdl, ← hsucc] at hput
        have HP := Lib.hid hput
        clear hput hsucc hget hkey hsz hdl hok hst hTr SR
        generalize (⟨(M.getD k []).toArray⟩ : ByteArray) = key at *
        generalize factC f.1 f.2 = c at *
        go_wp2_with fail
        refine HP.out.mono ?_
        rintro e W3 ⟨rfl, hS3, hg3⟩
        have S3 := Lib.hid hS3
        have G3 := Lib.hid (grown_trans GR.out hg3)
        clear hS3 hg3 GR HP c1 c2 hlk
        go_wp2_with fail
        go_roundw
        case rel => exact ⟨k + 1, by omega, by go_num, S3, G3⟩
        case measure => simp [intOf]; omega
    · obtain rfl : k = M.length := by omega
      rw [Hfin.out] at SR
      go_wp2_with fail
      go_ret
      exact ⟨rfl, SR.out, grown_after B2.out GR.out⟩
theorem Union_calls (p b r d : Nat) (es ts : List Ent) (w : World) (hS : SetAt w p b es) (hT : SetAt w r d ts) (gS : Good es) (gT : Good ts) (hbd : b ≠ d) (hbr : b ≠ r) :
    Calls Tryd.prog 21 #[.pointer (some ⟨p, 0, none⟩), .pointer (some ⟨r, 0, none⟩)] w fun e W' => e = .returned (.int .i64 (uniErr es ts)) ∧ SetAt W' p b (uniS es ts) ∧ w.grownBy W' (some b) := by
  unfold uniErr uniS
  by_cases h : es.length + (missK es (idsE ts)).length ≤ 4000
  · rw [if_pos h, if_pos h]
    exact (Union_fit p b r d es ts w hS hT gS gT hbd hbr h).mono fun _ _ ⟨h1, h2, h3⟩ => ⟨h1, h2, h3⟩
  · rw [if_neg h, if_neg h]
    exact (Union_full p b r d es ts w hS hT gS gT hbd hbr (by omega)).mono fun _ _ ⟨h1, h2, h3⟩ => ⟨h1, h2, h3⟩
end Go.Proofs.YtmhphmolbjjopaaDoor
