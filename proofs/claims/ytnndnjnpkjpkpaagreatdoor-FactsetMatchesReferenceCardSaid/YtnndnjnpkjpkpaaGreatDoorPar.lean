/- The contracts of package factset's Missing and Root. | The contract of package factset's Union. | The contract of package factset's Part. -/
import Derived.Test.YtnndnjnpkjpkpaaGreatDoorFac
namespace Go.Proofs.YtnndnjnpkjpkpaaGreatDoor
open Go.RowKit Go.Maps Go.Sort Go.Shelf

theorem SetP.below {w w' : World} {q : Option Addr} {es : List Ent} (h : SetP w q es) (hb : Below w.heap.size w w') : SetP w' q es := by
  rcases h with h | ⟨p, b, e, hS, hG⟩
  · exact .inl h
  · exact .inr ⟨p, b, e, hS.below hb, hG⟩
theorem SetP.asc {w : World} {q : Option Addr} {es : List Ent} (h : SetP w q es) : Asc es := by
  rcases h with ⟨_, rfl⟩ | ⟨p, b, e, hS, hG⟩
  · exact List.Pairwise.nil
  · exact hG.1
theorem HasP (q : Option Addr) (es : List Ent) (k : ByteArray) (w : World) (h : SetP w q es) (hk : k.size ≤ maxLen) :
    Calls Tryz.prog 27 #[.pointer q, .string k] w fun e W' => e = .returned (.bool (hasE es k.data.toList)) ∧ Below w.heap.size w W' := by
  rcases h with ⟨rfl, rfl⟩ | ⟨p, b, rfl, hS, hG⟩
  · exact (Has_nil k w).mono fun _ _ ⟨h1, h2⟩ => ⟨h1, h2 ▸ Below.refl _ _⟩
  · exact Has_calls p b es k w hS hG.2.1 hk
/-- A map of truths of one's own. -/
def MapB (w : World) (b : Nat) (es : List Ent) : Prop := w.ownsMap Tryz.prog 9 valR b es.length (dS es)
theorem MapB.store {w : World} {b : Nat} {es : List Ent} (h : MapB w b es) (ha : Asc es) (hn : es.length < maxLen) (k : ByteArray) (hk : k.size ≤ maxLen) (x : Value) :
    ∃ w', (Instr.mapUpdate 75 (.map (some b)) (.string k) x).run Tryz.prog w = .ok () w' ∧ MapB w' b (putE k.data.toList x es) ∧ w.grownBy w' (some b) := by
  obtain ⟨w', hrun, hown, hg⟩ := World.ownsMap.update h (string_keyed Tryz.underlying9) Tryz.underlying75 hn (key_lit hk) (show valR x = some (.held x, []) from rfl)
  rw [put_dS ha] at hown
  refine ⟨w', hrun, ?_, hg⟩
  have := owns_tight hown
  rw [size_dS] at this
  exact this
/-- What the loop of Missing has put into its map. -/
def missTo (es : List Ent) (ids : List (List UInt8)) (k : Nat) : List Ent := missE es (ids.take k)
theorem missTo_asc (es : List Ent) (ids : List (List UInt8)) (k : Nat) : Asc (missTo es ids k) := missE_asc _ _
theorem missTo_succ (es : List Ent) (ids : List (List UInt8)) (k : Nat) (h : k < ids.length) : missTo es ids (k + 1) = if hasE es (ids.getD k []) = true then missTo es ids k else putE (ids.getD k []) (.bool true) (missTo es ids k) := by
  unfold missTo missE
  rw [List.take_succ_eq_append_getElem h, List.foldl_append, List.getD_eq_getElem?_getD, List.getElem?_eq_getElem h]
  rfl
theorem missTo_length (es : List Ent) (ids : List (List UInt8)) (k : Nat) : (missTo es ids k).length ≤ ids.length := by
  have h1 := missK_length_le es (ids.take k)
  unfold missK at h1
  rw [List.length_map, List.length_take] at h1
  unfold missTo
  omega
set_option maxRecDepth 100000 in
theorem Missing_calls (q : Option Addr) (es : List Ent) (ids : List Bs) (A : Option Addr) (cap : Nat) (w : World) (hS : SetP w q es) (hA : Strs w A ids) (hl : ids.length ≤ 1000000) (_hc : ids.length ≤ cap) (hx : ∀ x ∈ ids, x.length ≤ 281474976710656) :
    Calls Tryz.prog 20 #[.pointer q, .slice A ids.length cap] w fun e W' => ∃ v, e = .returned v ∧ RowS W' w.heap.size v (missK es ids) ∧ (v = .slice none 0 0 ↔ missK es ids = []) ∧ Below w.heap.size w W' := by
  have hmm := @run_makeMap Tryz.prog
  have HA := Lib.hid hA
  have HS := Lib.hid hS
  have HX := Lib.hid hx
  clear hA hS hx
  go_enter Tryz.func20, Tryz.ntmps20
  go_wp2_with fail
  go_loopw [11] (fun iv wr => ∃ k : Nat, k ≤ ids.length ∧ iv = .int .i64 k ∧ Hid (MapB wr w.heap.size (missTo es ids k)) ∧ Below w.heap.size w wr) (fun iv _ => ids.length - (intOf iv).toNat)
  case atStart =>
    exact ⟨0, by omega, rfl, Lib.hid (World.ownsMap_made w Tryz.prog 9 valR), (Below.refl _ w).alloc (Nat.le_refl _) _⟩
  case round =>
    obtain ⟨k, hk, rfl, HM, bR⟩ := hrel
    by_cases hlt : k < ids.length
    · rcases HA.out with hz | ⟨g, o, rfl, hst⟩
      · rw [hz] at hlt; exact absurd hlt (by simp)
      · have c1 : wr.cell? ⟨g, o + k, none⟩ = some (.string ⟨(ids.getD k []).toArray⟩) := (bR.cell (p := ⟨g, o + k, none⟩) (lt_of_cell (hst k hlt))).trans (hst k hlt)
        have k1 : (k : Int) < (ids.length : Int) := by omega
        have k0 : 0 ≤ (k : Int) := by omega
        have hsz : (ids.getD k []).length ≤ 281474976710656 := by
          rw [List.getD_eq_getElem?_getD, List.getElem?_eq_getElem hlt]
          exact HX.out _ (List.getElem_mem hlt)
        have hsz1 : (⟨(ids.getD k []).toArray⟩ : ByteArray).size ≤ 281474976710656 := hsz
        have hsz2 : (⟨(ids.getD k []).toArray⟩ : ByteArray).size ≤ maxLen := by unfold maxLen; omega
        have HH := Lib.hid (HasP q es ⟨(ids.getD k []).toArray⟩ wr (HS.out.below bR) hsz2)
        have HC := Lib.hid (fun W => Clone_calls ⟨(ids.getD k []).toArray⟩ W hsz1)
        have hlen := missTo_length es ids k
        have HU := Lib.hid (fun (W : World) (h : MapB W w.heap.size (missTo es ids k)) => h.store (missTo_asc es ids k) (by unfold maxLen; omega) ⟨(ids.getD k []).toArray⟩ hsz2 (.bool true))
        have Hsucc := Lib.hid (missTo_succ es ids k hlt)
        have hdl : (⟨(ids.getD k []).toArray⟩ : ByteArray).data.toList = ids.getD k [] := by simp
        rw [hdl] at HH HU
        clear hsz hsz1 hsz2 hst hdl hlen
        generalize (⟨(ids.getD k []).toArray⟩ : ByteArray) = key at *
        cases hb : hasE es (ids.getD k []) with
        | true =>
          rw [hb] at HH Hsucc
          go_wp2_with fail
          refine HH.out.mono ?_
          rintro e W1 ⟨rfl, b1⟩
          have HM1 := Lib.hid (World.ownsMap.kept HM.out (grown_of_below b1) (by simp))
          have B1 := bR.trans (b1.mono bR.size)
          go_wp2_with fail
          go_roundw
          case rel => exact ⟨k + 1, by omega, by go_num, Lib.hid (by rw [Hsucc.out]; exact HM1.out), B1⟩
          case measure => simp [intOf]; omega
        | false =>
          rw [hb] at HH Hsucc
          go_wp2_with fail
          refine HH.out.mono ?_
          rintro e W1 ⟨rfl, b1⟩
          have HM1 := Lib.hid (World.ownsMap.kept HM.out (grown_of_below b1) (by simp))
          have B1 := bR.trans (b1.mono bR.size)
          clear b1
          go_wp2_with fail
          refine (HC.out _).mono ?_
          rintro e W2 ⟨rfl, b2⟩
          have hM2 := World.ownsMap.kept HM1.out (grown_of_below b2) (by simp)
          have B2 := B1.trans (b2.mono B1.size)
          obtain ⟨W3, hrun, hM3, hg⟩ := HU.out W2 hM2
          have HM3 := Lib.hid hM3
          have B3 := B2.grown hg B2.size (fun j e => by cases e; exact Nat.le_refl _)
          clear b2 hM2 hM3 hg
          go_wp2_with fail
          go_roundw
          case rel => exact ⟨k + 1, by omega, by go_num, Lib.hid (by rw [Hsucc.out]; exact HM3.out), B3⟩
          case measure => simp [intOf]; omega
    · obtain rfl : k = ids.length := by omega
      have hfin : missTo es ids ids.length = missE es ids := by unfold missTo; rw [List.take_length]
      rw [hfin] at HM
      have hlen := missTo_length es ids ids.length
      rw [hfin] at hlen
      have k1 : ¬ ((ids.length : Int) < (ids.length : Int)) := by omega
      have HK := Lib.hid (callsIn_wide.1 (keysB_calls (some w.heap.size) wr))
      have HT := Lib.hid (callsIn_wide.1 (sortedB_calls w.heap.size _ valR (missE es ids) wr HM.out (missE_asc es ids) (by omega)))
      have hsz := bR.size
      clear hlt hfin hlen
      go_wp2_with fail
      refine HK.out.mono ?_
      rintro e W1 ⟨rfl, rfl⟩
      go_wp2_with fail
      refine HT.out.mono ?_
      rintro e W2 ⟨v, rfl, hrow, hnil, b2⟩
      go_wp2_with fail
      go_ret
      refine ⟨v, rfl, ownsRow_base_a hrow (by omega), ?_, bR.trans (b2.mono hsz)⟩
      rw [hnil]
      unfold missK
      rw [List.map_eq_nil_iff]

/-! ### Root -/
/-- The IDs of a set. -/
def idsE (es : List Ent) : List Bs := es.map (·.1)
/-- A set's root. -/
def rootE (q : Option Addr) (es : List Ent) : Bs := if q = none then [] else rootF shaF (idsE es)
set_option maxRecDepth 100000 in
theorem Root_nil (w : World) : Calls Tryz.prog 23 #[.pointer none] w fun e W' => e = .returned (.string ⟨#[]⟩) ∧ w = W' := by
  go_enter Tryz.func23, Tryz.ntmps23
  go_wp2_with fail
  go_ret
  exact ⟨rfl, rfl⟩
set_option maxRecDepth 100000 in
theorem RootSet (p b : Nat) (es : List Ent) (w : World) (hK : Konst w) (hS : SetAt w p b es) (hG : Good es) :
    Calls Tryz.prog 23 #[.pointer (some ⟨p, 0, none⟩)] w fun e W' => e = .returned (.string ⟨(rootF shaF (idsE es)).toArray⟩) ∧ Below w.heap.size w W' := by
  have HI := Lib.hid (IDs_calls (some ⟨p, 0, none⟩) es w (.inr ⟨p, b, rfl, hS, hG⟩))
  have HK := Lib.hid hK
  have hl : (idsE es).length ≤ 1000000 := by unfold idsE; rw [List.length_map]; have := hG.2.2; omega
  have hx : ∀ x ∈ idsE es, x.length ≤ 1000000000 := by
    intro x hx
    unfold idsE at hx
    obtain ⟨y, hy, rfl⟩ := List.mem_map.1 hx
    rw [good_key hG hy]; decide
  have HR := Lib.hid (fun (W : World) (h : Below w.heap.size w W) (A : Option Addr) (cap : Nat) (hc : (idsE es).length ≤ cap) (hs : Strs W A (idsE es)) => Root_calls (idsE es) A cap W (hK.keep h) hl hc hs hx)
  rw [show es.map (·.1) = idsE es from rfl] at HI
  clear hK hS hG hl hx
  generalize (⟨(rootF shaF (idsE es)).toArray⟩ : ByteArray) = R at *
  generalize idsE es = ids at *
  go_enter Tryz.func23, Tryz.ntmps23
  go_wp2_with fail
  refine HI.out.mono ?_
  rintro e W1 ⟨v, rfl, hrow, b1⟩
  obtain ⟨A, cap, rfl, hcap, hs⟩ := RowS.slice hrow
  have hcall := HR.out W1 b1 A cap hcap hs
  clear hrow hcap hs
  go_wp2_with fail
  refine hcall.mono ?_
  rintro e W2 ⟨rfl, b2⟩
  go_wp2_with fail
  go_ret
  exact ⟨rfl, b1.trans (b2.mono b1.size)⟩
end Go.Proofs.YtnndnjnpkjpkpaaGreatDoor
namespace Go.Proofs.YtnndnjnpkjpkpaaGreatDoor
open Go.RowKit Go.Maps Go.Sort Go.Shelf

theorem putAll_succ (t s : List Ent) (ks : List (List UInt8)) (k : Nat) (h : k < ks.length) : putAll t s (ks.take (k + 1)) = putE (ks.getD k []) ((getE t (ks.getD k [])).getD (.bool false)) (putAll t s (ks.take k)) := by
  unfold putAll
  rw [List.take_succ_eq_append_getElem h, List.foldl_append, List.getD_eq_getElem?_getD, List.getElem?_eq_getElem h]
  rfl
/-- An element that is missing is one of the other set. -/
theorem miss_at {s t : List Ent} (ht : Asc t) (hF : Facts t) (k : Nat) (h : k < (missK s (idsE t)).length) :
    ∃ f : Fa, okA f = true ∧ getE t ((missK s (idsE t)).getD k []) = some (valF f) ∧ (missK s (idsE t)).getD k [] = keyF f := by
  have hm : (missK s (idsE t)).getD k [] ∈ missK s (idsE t) := by
    rw [List.getD_eq_getElem?_getD, List.getElem?_eq_getElem h]; exact List.getElem_mem h
  obtain ⟨h1, h2⟩ := (mem_missK _ _ _).1 hm
  generalize (missK s (idsE t)).getD k [] = j at *
  have h3 := (mem_keys ht j).1 h1
  unfold hasE at h3
  cases hg : getE t j with
  | none => rw [hg] at h3; cases h3
  | some x =>
    obtain ⟨f, ho, e⟩ := hF _ (getE_mem hg)
    cases e
    exact ⟨f, ho, rfl, rfl⟩
theorem putAll_take_length {s t : List Ent} (hs : Asc s) (k : Nat) (h : k ≤ (missK s (idsE t)).length) : (putAll t s ((missK s (idsE t)).take k)).length = s.length + k := by
  have h1 : (missK s (idsE t)).Pairwise (· ≠ ·) := keys_apart (missE_asc _ _)
  rw [putAll_length hs _ (h1.sublist (List.take_sublist _ _)) (fun j hj => ((mem_missK _ _ _).1 (List.mem_of_mem_take hj)).2), List.length_take]
  omega
def uniErr (s t : List Ent) : Int := if s.length + (missK s (idsE t)).length ≤ 4000 then 0 else 60
def uniS (s t : List Ent) : List Ent := if s.length + (missK s (idsE t)).length ≤ 4000 then uniE s t else s
theorem good_uni {s t : List Ent} (hs : Good s) (ht : Good t) : Good (uniS s t) := by
  unfold uniS
  split
  · rename_i h
    exact ⟨uniE_asc hs.1, uniE_facts hs ht, by rw [uniE_length hs.1]; exact h⟩
  · exact hs

theorem grown_trans {A B C : World} {row : Option Nat} (h : A.grownBy B row) (k : B.grownBy C row) : A.grownBy C row :=
  ⟨k.os.trans h.os, k.tape.trans h.tape, k.output.trans h.output, Nat.le_trans h.size k.size, fun i hi hr => (k.block i (Nat.lt_of_lt_of_le hi h.size) hr).trans (h.block i hi hr)⟩
set_option maxRecDepth 100000 in
theorem Union_nil1 (q : Option Addr) (w : World) : Calls Tryz.prog 10 #[.pointer none, .pointer q] w fun e W' => e = .returned (.int .i64 1) ∧ w = W' := by
  go_enter Tryz.func10, Tryz.ntmps10
  go_wp2_with fail
  go_ret
  exact ⟨rfl, rfl⟩
set_option maxRecDepth 100000 in
theorem Union_nil2 (p : Addr) (w : World) : Calls Tryz.prog 10 #[.pointer (some p), .pointer none] w fun e W' => e = .returned (.int .i64 1) ∧ w = W' := by
  go_enter Tryz.func10, Tryz.ntmps10
  go_wp2_with fail
  go_ret
  exact ⟨rfl, rfl⟩

set_option maxRecDepth 100000 in
set_option maxHeartbeats 2000000 in
theorem Union_full (p b r d : Nat) (es ts : List Ent) (w : World) (hS : SetAt w p b es) (hT : SetAt w r d ts) (gS : Good es) (gT : Good ts) (_hbd : b ≠ d) (_hbr : b ≠ r) (hfit : 4000 < es.length + (missK es (idsE ts)).length) :
    Calls Tryz.prog 10 #[.pointer (some ⟨p, 0, none⟩), .pointer (some ⟨r, 0, none⟩)] w fun e W' => e = .returned (.int .i64 60) ∧ SetAt W' p b es ∧ w.grownBy W' (some b) := by
  have hlS := gS.2.2
  have hlT := gT.2.2
  have hMl : (missK es (idsE ts)).length ≤ 4000 := by
    have := missK_length_le es (idsE ts)
    unfold idsE at this ⊢
    rw [List.length_map] at this
    omega
  have hIl : (idsE ts).length ≤ 4000 := by unfold idsE; rw [List.length_map]; exact hlT
  have hIx : ∀ x ∈ idsE ts, x.length ≤ 281474976710656 := by
    intro x hx
    unfold idsE at hx
    obtain ⟨y, hy, rfl⟩ := List.mem_map.1 hx
    rw [good_key gT hy]; decide
  have HI := Lib.hid (IDs_calls (some ⟨r, 0, none⟩) ts w (.inr ⟨r, d, rfl, hT, gT⟩))
  rw [show ts.map (·.1) = idsE ts from rfl] at HI
  have HM := Lib.hid (fun (W : World) (h : Below w.heap.size w W) (A : Option Addr) (cap : Nat) (hc : (idsE ts).length ≤ cap) (hs : Strs W A (idsE ts)) =>
    Missing_calls (some ⟨p, 0, none⟩) es (idsE ts) A cap W (.inr ⟨p, b, rfl, hS.below h, gS⟩) hs (by omega) hc hIx)
  have HL := Lib.hid (fun (W : World) (h : Below w.heap.size w W) => Len_calls p b es W (hS.below h))
  have hbl := hS.ltb
  have Hat := Lib.hid (fun k hk => miss_at (s := es) gT.1 gT.2.1 k hk)
  have Hln := Lib.hid (fun k hk => putAll_take_length (s := es) (t := ts) gS.1 k hk)
  have Hsc := Lib.hid (fun k hk => putAll_succ ts es (missK es (idsE ts)) k hk)
  have Has := Lib.hid (fun k => putAll_asc (t := ts) gS.1 ((missK es (idsE ts)).take k))
  have Hfin : Hid (putAll ts es ((missK es (idsE ts)).take (missK es (idsE ts)).length) = uniE es ts) := Lib.hid (by rw [List.take_length]; rfl)
  have HS := Lib.hid hS
  have HT := Lib.hid hT
  have H0 : Hid (putAll ts es ((missK es (idsE ts)).take 0) = es) := Lib.hid rfl
  clear gS gT hS hT hIx hlT
  generalize hMM : missK es (idsE ts) = M at *
  clear hMM
  generalize idsE ts = I at *
  have k1 : (4000 : Int) < (es.length : Int) + (M.length : Int) := by omega
  go_enter Tryz.func10, Tryz.ntmps10
  go_wp2_with fail
  refine HI.out.mono ?_
  rintro e W1 ⟨v, rfl, hrow, b1⟩
  obtain ⟨A, cap, rfl, hcap, hs⟩ := RowS.slice hrow
  have hcall := HM.out W1 b1 A cap hcap hs
  have B1 := Lib.hid b1
  clear hrow hcap hs b1 HI HM
  go_wp2_with fail
  refine hcall.mono ?_
  rintro e W2 ⟨v, rfl, hrow, -, b2⟩
  have hge := RowS.lt hrow
  obtain ⟨A2, cap2, rfl, hcap2, hs2⟩ := RowS.slice hrow
  have hz1 := B1.out.size
  have B2 := Lib.hid (B1.out.trans (b2.mono hz1))
  have HA := Lib.hid hs2
  have hl2 := HL.out W2 B2.out
  clear hcall hrow hs2 b2 B1 HL
  go_wp2_with fail
  refine hl2.mono ?_
  rintro e W2' ⟨rfl, rfl⟩
  clear hl2
  go_wp2_with fail
  go_ret
  exact ⟨rfl, HS.out.below B2.out, grown_but (grown_of_below B2.out) _⟩
set_option maxRecDepth 100000 in
set_option maxHeartbeats 2000000 in
theorem Union_fit (p b r d : Nat) (es ts : List Ent) (w : World) (hS : SetAt w p b es) (hT : SetAt w r d ts) (gS : Good es) (gT : Good ts) (hbd : b ≠ d) (hbr : b ≠ r) (hfit : es.length + (missK es (idsE ts)).length ≤ 4000) :
    Calls Tryz.prog 10 #[.pointer (some ⟨p, 0, none⟩), .pointer (some ⟨r, 0, none⟩)] w fun e W' => e = .returned (.int .i64 0) ∧ SetAt W' p b (uniE es ts) ∧ w.grownBy W' (some b) := by
  have hlS := gS.2.2
  have hlT := gT.2.2
  have hMl : (missK es (idsE ts)).length ≤ 4000 := by
    have := missK_length_le es (idsE ts)
    unfold idsE at this ⊢
    rw [List.length_map] at this
    omega
  have hIl : (idsE ts).length ≤ 4000 := by unfold idsE; rw [List.length_map]; exact hlT
  have hIx : ∀ x ∈ idsE ts, x.length ≤ 281474976710656 := by
    intro x hx
    unfold idsE at hx
    obtain ⟨y, hy, rfl⟩ := List.mem_map.1 hx
    rw [good_key gT hy]; decide
  have HI := Lib.hid (IDs_calls (some ⟨r, 0, none⟩) ts w (.inr ⟨r, d, rfl, hT, gT⟩))
  rw [show ts.map (·.1) = idsE ts from rfl] at HI
  have HM := Lib.hid (fun (W : World) (h : Below w.heap.size w W) (A : Option Addr) (cap : Nat) (hc : (idsE ts).length ≤ cap) (hs : Strs W A (idsE ts)) =>
    Missing_calls (some ⟨p, 0, none⟩) es (idsE ts) A cap W (.inr ⟨p, b, rfl, hS.below h, gS⟩) hs (by omega) hc hIx)
  have HL := Lib.hid (fun (W : World) (h : Below w.heap.size w W) => Len_calls p b es W (hS.below h))
  have hbl := hS.ltb
  have Hat := Lib.hid (fun k hk => miss_at (s := es) gT.1 gT.2.1 k hk)
  have Hln := Lib.hid (fun k hk => putAll_take_length (s := es) (t := ts) gS.1 k hk)
  have Hsc := Lib.hid (fun k hk => putAll_succ ts es (missK es (idsE ts)) k hk)
  have Has := Lib.hid (fun k => putAll_asc (t := ts) gS.1 ((missK es (idsE ts)).take k))
  have Hfin : Hid (putAll ts es ((missK es (idsE ts)).take (missK es (idsE ts)).length) = uniE es ts) := Lib.hid (by rw [List.take_length]; rfl)
  have HS := Lib.hid hS
  have HT := Lib.hid hT
  have H0 : Hid (putAll ts es ((missK es (idsE ts)).take 0) = es) := Lib.hid rfl
  clear gS gT hS hT hIx hlT
  generalize hMM : missK es (idsE ts) = M at *
  clear hMM
  generalize idsE ts = I at *
  have k1 : (es.length : Int) + (M.length : Int) ≤ 4000 := by omega
  go_enter Tryz.func10, Tryz.ntmps10
  go_wp2_with fail
  refine HI.out.mono ?_
  rintro e W1 ⟨v, rfl, hrow, b1⟩
  obtain ⟨A, cap, rfl, hcap, hs⟩ := RowS.slice hrow
  have hcall := HM.out W1 b1 A cap hcap hs
  have B1 := Lib.hid b1
  clear hrow hcap hs b1 HI HM
  go_wp2_with fail
  refine hcall.mono ?_
  rintro e W2 ⟨v, rfl, hrow, -, b2⟩
  have hge := RowS.lt hrow
  obtain ⟨A2, cap2, rfl, hcap2, hs2⟩ := RowS.slice hrow
  have hz1 := B1.out.size
  have B2 := Lib.hid (B1.out.trans (b2.mono hz1))
  have HA := Lib.hid hs2
  have hl2 := HL.out W2 B2.out
  clear hcall hrow hs2 b2 B1 HL
  go_wp2_with fail
  refine hl2.mono ?_
  rintro e W2' ⟨rfl, rfl⟩
  clear hl2
  go_wp2_with fail
  have hfar : ∀ g o, A2 = some ⟨g, o, none⟩ → w.heap.size ≤ g := fun g o e => by
    subst e
    have := hge g rfl
    omega
  have hz2 := B2.out.size
  have S2 := Lib.hid (HS.out.below B2.out)
  have T2 := Lib.hid (HT.out.below B2.out)
  clear hge k1
  go_loopw [26] (fun iv wr => ∃ k : Nat, k ≤ M.length ∧ iv = .int .i64 k ∧ Hid (SetAt wr p b (putAll ts es (M.take k))) ∧ Hid (W2.grownBy wr (some b))) (fun iv _ => M.length - (intOf iv).toNat)
  case atStart =>
    exact ⟨0, by omega, rfl, Lib.hid (by rw [H0.out]; exact S2.out), Lib.hid (grown_but (grown_of_below (Below.refl _ _)) _)⟩
  case round =>
    obtain ⟨k, hk, rfl, SR, GR⟩ := hrel
    by_cases hlt : k < M.length
    · rcases HA.out with hz | ⟨g, o, rfl, hst⟩
      · rw [hz] at hlt; exact absurd hlt (by simp)
      · have hg := hfar g o rfl
        have c1 : wr.cell? ⟨g, o + k, none⟩ = some (.string ⟨(M.getD k []).toArray⟩) := by
          have h1 := hst k hlt
          rw [World.grownBy.cell_far GR.out ⟨g, o + k, none⟩ (lt_of_cell h1) (fun e => by have := Option.some.inj e; simp only at this; omega)]
          exact h1
        have k1 : (k : Int) < (M.length : Int) := by omega
        have k0 : 0 ≤ (k : Int) := by omega
        obtain ⟨f, hok, hget, hkey⟩ := Hat.out k hlt
        have hTr := T2.out.keep GR.out (fun e => hbr (Option.some.inj e)) (fun e => hbd (Option.some.inj e))
        have c2 := hTr.cell
        have hsz : (⟨(M.getD k []).toArray⟩ : ByteArray).size = 32 := by show (M.getD k []).length = 32; rw [hkey, keyF_length]
        have hdl : (⟨(M.getD k []).toArray⟩ : ByteArray).data.toList = M.getD k [] := by simp
        have hlk := hTr.look ⟨(M.getD k []).toArray⟩ (by rw [hsz]; decide)
        rw [hdl, show lookE ts (M.getD k []) = .agg (factC f.1 f.2) by unfold lookE; rw [hget]; rfl] at hlk
        have hput := put_calls p b _ ⟨(M.getD k []).toArray⟩ f.1 f.2 wr SR.out (Has.out k) (by rw [Hln.out k hk]; unfold maxLen; omega) (by rw [hsz]; decide) (by rw [hsz]; decide) (by have := good_text hok; omega)
        have hsucc := Hsc.out k hlt
        rw [hget, show (some (valF f)).getD (Value.bool false) = .agg (factC f.1 f.2) from rfl] at hsucc
        rw [hdl, ← hsucc] at hput
        have HP := Lib.hid hput
        clear hput hsucc hget hkey hsz hdl hok hst hTr SR
        generalize (⟨(M.getD k []).toArray⟩ : ByteArray) = key at *
        generalize factC f.1 f.2 = c at *
        go_wp2_with fail
        refine HP.out.mono ?_
        rintro e W3 ⟨rfl, hS3, hg3⟩
        have S3 := Lib.hid hS3
        have G3 := Lib.hid (grown_trans GR.out hg3)
        clear hS3 hg3 GR HP c1 c2 hlk
        go_wp2_with fail
        go_roundw
        case rel => exact ⟨k + 1, by omega, by go_num, S3, G3⟩
        case measure => simp [intOf]; omega
    · obtain rfl : k = M.length := by omega
      rw [Hfin.out] at SR
      go_wp2_with fail
      go_ret
      exact ⟨rfl, SR.out, grown_after B2.out GR.out⟩
theorem Union_calls (p b r d : Nat) (es ts : List Ent) (w : World) (hS : SetAt w p b es) (hT : SetAt w r d ts) (gS : Good es) (gT : Good ts) (hbd : b ≠ d) (hbr : b ≠ r) :
    Calls Tryz.prog 10 #[.pointer (some ⟨p, 0, none⟩), .pointer (some ⟨r, 0, none⟩)] w fun e W' => e = .returned (.int .i64 (uniErr es ts)) ∧ SetAt W' p b (uniS es ts) ∧ w.grownBy W' (some b) := by
  unfold uniErr uniS
  by_cases h : es.length + (missK es (idsE ts)).length ≤ 4000
  · rw [if_pos h, if_pos h]
    exact (Union_fit p b r d es ts w hS hT gS gT hbd hbr h).mono fun _ _ ⟨h1, h2, h3⟩ => ⟨h1, h2, h3⟩
  · rw [if_neg h, if_neg h]
    exact (Union_full p b r d es ts w hS hT gS gT hbd hbr (by omega)).mono fun _ _ ⟨h1, h2, h3⟩ => ⟨h1, h2, h3⟩
end Go.Proofs.YtnndnjnpkjpkpaaGreatDoor
namespace Go.Proofs.YtnndnjnpkjpkpaaGreatDoor
open Go.RowKit Go.Maps Go.Sort Go.Shelf

/-- What Part makes of ids. -/
def partE (es : List Ent) (ids : List (List UInt8)) : List Ent := putAll es [] ids
theorem putAll_len_le {t s : List Ent} (h : Asc s) (ks : List (List UInt8)) : (putAll t s ks).length ≤ s.length + ks.length := by
  unfold putAll
  induction ks generalizing s with
  | nil => simp
  | cons k ks ih =>
    rw [List.foldl_cons, List.length_cons]
    have h1 := ih (putE_asc (k := k) (x := (getE t k).getD (.bool false)) h)
    have h2 : (putE k ((getE t k).getD (.bool false)) s).length ≤ s.length + 1 := by rw [putE_length h]; split <;> omega
    omega
theorem asc_sub_length : ∀ {es xs : List Ent}, Asc xs → Asc es → (∀ k, hasE xs k = true → hasE es k = true) → xs.length ≤ es.length := by
  intro es
  induction es with
  | nil =>
    intro xs _ _ h
    cases xs with
    | nil => exact Nat.le_refl _
    | cons p r => have := h p.1 (by simp [hasE, getE]); simp [hasE, getE] at this
  | cons e es ih =>
    intro xs hx he h
    have hf : (xs.filter fun p => decide (p.1 ≠ e.1)).length ≤ es.length := by
      refine ih (List.Pairwise.filter _ hx) (asc_tail he) (fun k hk => ?_)
      unfold hasE at hk
      cases hg : getE (xs.filter fun p => decide (p.1 ≠ e.1)) k with
      | none => rw [hg] at hk; cases hk
      | some v =>
        have hm := List.mem_filter.1 (getE_mem hg)
        have hne : k ≠ e.1 := by simpa using hm.2
        have := h k (by unfold hasE; rw [mem_getE hx hm.1]; rfl)
        unfold hasE at this ⊢
        unfold getE at this
        rw [if_neg (Ne.symm hne)] at this
        exact this
    have h2 : xs.length ≤ (xs.filter fun p => decide (p.1 ≠ e.1)).length + 1 := by
      clear ih h hf he
      induction xs with
      | nil => simp
      | cons p r ihr =>
        rw [List.filter_cons]
        by_cases hp : p.1 = e.1
        · have hall : ∀ q ∈ r, decide (q.1 ≠ e.1) = true := fun q hq => by
            rw [decide_eq_true_eq]
            intro e'
            have := asc_head hx q hq
            rw [hp, e', ls_irr] at this; cases this
          rw [List.filter_eq_self.2 hall]
          simp [hp]
        · have := ihr (asc_tail hx)
          rw [if_pos (by simpa using hp), List.length_cons, List.length_cons]
          omega
    rw [List.length_cons]
    omega
theorem miss_nil {es : List Ent} {ids : List (List UInt8)} (h : missK es ids = []) : ∀ k ∈ ids, hasE es k = true := by
  intro k hk
  cases hh : hasE es k with
  | true => rfl
  | false =>
    have := (mem_missK es ids k).2 ⟨hk, hh⟩
    rw [h] at this; cases this
theorem partE_asc (es : List Ent) (ids : List (List UInt8)) : Asc (partE es ids) := putAll_asc List.Pairwise.nil ids
theorem partE_get {es : List Ent} {ids : List (List UInt8)} (h : missK es ids = []) (k : List UInt8) : getE (partE es ids) k = if k ∈ ids then getE es k else none := by
  unfold partE
  rw [putAll_get List.Pairwise.nil]
  split
  · rename_i hk
    have h1 := miss_nil h k hk
    unfold hasE at h1
    cases hg : getE es k with
    | none => rw [hg] at h1; cases h1
    | some x => rfl
  · rfl
theorem good_part {es : List Ent} (hG : Good es) {ids : List (List UInt8)} (h : missK es ids = []) : Good (partE es ids) := by
  refine ⟨partE_asc es ids, fun p hp => ?_, ?_⟩
  · have h1 := mem_getE (partE_asc es ids) (k := p.1) (x := p.2) hp
    rw [partE_get h] at h1
    split at h1
    · exact hG.2.1 _ (getE_mem h1)
    · cases h1
  · refine Nat.le_trans (asc_sub_length (partE_asc es ids) hG.1 (fun k hk => ?_)) hG.2.2
    unfold hasE at hk ⊢
    rw [partE_get h] at hk
    split at hk
    · exact hk
    · cases hk
set_option maxRecDepth 100000 in
theorem Part_nil (A : Option Addr) (n cap : Nat) (w : World) : Calls Tryz.prog 13 #[.pointer none, .slice A n cap] w fun e W' => e = .returned (.tuple #[.pointer none, .bool false]) ∧ w = W' := by
  go_enter Tryz.func13, Tryz.ntmps13
  go_wp2_with fail
  go_ret2
  exact ⟨rfl, rfl⟩
set_option maxRecDepth 100000 in
theorem Part_miss (p b : Nat) (es : List Ent) (ids : List Bs) (A : Option Addr) (cap : Nat) (w : World) (hS : SetAt w p b es) (hG : Good es) (hA : Strs w A ids) (hl : ids.length ≤ 1000000) (hc : ids.length ≤ cap) (hx : ∀ x ∈ ids, x.length ≤ 281474976710656) (hm : missK es ids ≠ []) :
    Calls Tryz.prog 13 #[.pointer (some ⟨p, 0, none⟩), .slice A ids.length cap] w fun e W' => e = .returned (.tuple #[.pointer none, .bool false]) ∧ Below w.heap.size w W' := by
  have HM := Lib.hid (Missing_calls (some ⟨p, 0, none⟩) es ids A cap w (.inr ⟨p, b, rfl, hS, hG⟩) hA hl hc hx)
  have k1 : (0 : Int) < ((missK es ids).length : Int) := by
    have := List.length_pos_iff.2 hm
    omega
  clear hS hG hA hl hc hx hm
  generalize missK es ids = M at *
  go_enter Tryz.func13, Tryz.ntmps13
  go_wp2_with fail
  refine HM.out.mono ?_
  rintro e W1 ⟨v, rfl, hrow, -, b1⟩
  obtain ⟨A2, cap2, rfl, hcap2, hs2⟩ := RowS.slice hrow
  clear hrow hs2 HM
  go_wp2_with fail
  go_ret2
  exact ⟨rfl, b1⟩
set_option maxRecDepth 100000 in
set_option maxHeartbeats 2000000 in
theorem Part_has (p b : Nat) (es : List Ent) (ids : List Bs) (A : Option Addr) (cap : Nat) (w : World) (hS : SetAt w p b es) (hG : Good es) (hA : Strs w A ids) (hl : ids.length ≤ 1000000) (hc : ids.length ≤ cap) (hx : ∀ x ∈ ids, x.length ≤ 281474976710656) (hm : missK es ids = []) :
    Calls Tryz.prog 13 #[.pointer (some ⟨p, 0, none⟩), .slice A ids.length cap] w fun e W' => ∃ p' b', e = .returned (.tuple #[.pointer (some ⟨p', 0, none⟩), .bool true]) ∧ SetAt W' p' b' (partE es ids) ∧ w.heap.size ≤ p' ∧ w.heap.size ≤ b' ∧ Below w.heap.size w W' := by
  have HM := Lib.hid (Missing_calls (some ⟨p, 0, none⟩) es ids A cap w (.inr ⟨p, b, rfl, hS, hG⟩) hA hl hc hx)
  rw [hm] at HM
  have HS := Lib.hid hS
  have HA := Lib.hid hA
  have Hat : Hid (∀ k, k < ids.length → ∃ f : Fa, okA f = true ∧ getE es (ids.getD k []) = some (valF f) ∧ ids.getD k [] = keyF f) := Lib.hid (fun k hk => by
    have hmem : ids.getD k [] ∈ ids := by rw [List.getD_eq_getElem?_getD, List.getElem?_eq_getElem hk]; exact List.getElem_mem hk
    have h1 := miss_nil hm _ hmem
    generalize ids.getD k [] = j at *
    unfold hasE at h1
    cases hg : getE es j with
    | none => rw [hg] at h1; cases h1
    | some x =>
      obtain ⟨f, ho, e⟩ := hG.2.1 _ (getE_mem hg)
      cases e
      exact ⟨f, ho, rfl, rfl⟩)
  have Hsc := Lib.hid (fun k hk => putAll_succ es [] ids k hk)
  have Has := Lib.hid (fun k => putAll_asc (t := es) (s := []) List.Pairwise.nil (ids.take k))
  have Hln : Hid (∀ k, k ≤ ids.length → (putAll es [] (ids.take k)).length ≤ 1000000) := Lib.hid (fun k hk => by
    have := putAll_len_le (t := es) (s := []) List.Pairwise.nil (ids.take k)
    rw [List.length_take, List.length_nil] at this
    omega)
  have Hfin : Hid (putAll es [] (ids.take ids.length) = partE es ids) := Lib.hid (by rw [List.take_length]; rfl)
  have H0 : Hid (putAll es [] (ids.take 0) = []) := Lib.hid rfl
  have hlp := hS.ltp
  have hlb := hS.ltb
  clear hS hG hA hx hm
  go_enter Tryz.func13, Tryz.ntmps13
  go_wp2_with fail
  refine HM.out.mono ?_
  rintro e W1 ⟨v, rfl, hrow, hnil, b1⟩
  have hv := hnil.2 (by trivial)
  subst hv
  clear hrow hnil HM
  go_wp2_with fail
  refine (New_calls W1).mono ?_
  rintro e W2 ⟨p', b', rfl, hS2, hp', hb', b2⟩
  have hz1 := b1.size
  have hz2 := b2.size
  have B2 := Lib.hid (b1.trans (b2.mono hz1))
  have S2 := Lib.hid hS2
  clear hS2 b1 b2
  go_wp2_with fail
  go_loopw [21] (fun iv wr => ∃ k : Nat, k ≤ ids.length ∧ iv = .int .i64 k ∧ Hid (SetAt wr p' b' (putAll es [] (ids.take k))) ∧ Hid (Below w.heap.size w wr)) (fun iv _ => ids.length - (intOf iv).toNat)
  case atStart =>
    exact ⟨0, by omega, rfl, Lib.hid (by rw [H0.out]; exact S2.out), B2⟩
  case round =>
    obtain ⟨k, hk, rfl, SR, BR⟩ := hrel
    by_cases hlt : k < ids.length
    · rcases HA.out with hz | ⟨g, o, rfl, hst⟩
      · rw [hz] at hlt; exact absurd hlt (by simp)
      · have c1 : wr.cell? ⟨g, o + k, none⟩ = some (.string ⟨(ids.getD k []).toArray⟩) := (BR.out.cell (p := ⟨g, o + k, none⟩) (lt_of_cell (hst k hlt))).trans (hst k hlt)
        have k1 : (k : Int) < (ids.length : Int) := by omega
        have k0 : 0 ≤ (k : Int) := by omega
        obtain ⟨f, hok, hget, hkey⟩ := Hat.out k hlt
        have hTr := HS.out.below BR.out
        have c2 := hTr.cell
        have hsz : (⟨(ids.getD k []).toArray⟩ : ByteArray).size = 32 := by show (ids.getD k []).length = 32; rw [hkey, keyF_length]
        have hdl : (⟨(ids.getD k []).toArray⟩ : ByteArray).data.toList = ids.getD k [] := by simp
        have hlk := hTr.look ⟨(ids.getD k []).toArray⟩ (by rw [hsz]; decide)
        rw [hdl, show lookE es (ids.getD k []) = .agg (factC f.1 f.2) by unfold lookE; rw [hget]; rfl] at hlk
        have hput := put_calls p' b' _ ⟨(ids.getD k []).toArray⟩ f.1 f.2 wr SR.out (Has.out k) (by have := Hln.out k hk; unfold maxLen; omega) (by rw [hsz]; decide) (by rw [hsz]; decide) (by have := good_text hok; omega)
        have hsucc := Hsc.out k hlt
        rw [hget, show (some (valF f)).getD (Value.bool false) = .agg (factC f.1 f.2) from rfl] at hsucc
        rw [hdl, ← hsucc] at hput
        have HP := Lib.hid hput
        clear hput hsucc hget hkey hsz hdl hok hst hTr SR
        generalize (⟨(ids.getD k []).toArray⟩ : ByteArray) = key at *
        generalize factC f.1 f.2 = c at *
        go_wp2_with fail
        refine HP.out.mono ?_
        rintro e W3 ⟨rfl, hS3, hg3⟩
        have S3 := Lib.hid hS3
        have B3 := Lib.hid (BR.out.grown hg3 BR.out.size (fun j e => by cases e; omega))
        clear hS3 hg3 BR HP c1 c2 hlk
        go_wp2_with fail
        go_roundw
        case rel => exact ⟨k + 1, by omega, by go_num, S3, B3⟩
        case measure => simp [intOf]; omega
    · obtain rfl : k = ids.length := by omega
      rw [Hfin.out] at SR
      go_wp2_with fail
      go_ret2
      exact ⟨p', b', rfl, SR.out, by omega, by omega, BR.out⟩
end Go.Proofs.YtnndnjnpkjpkpaaGreatDoor
