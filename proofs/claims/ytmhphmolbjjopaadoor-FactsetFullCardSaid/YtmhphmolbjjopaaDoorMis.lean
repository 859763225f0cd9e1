/- The contracts of package factset's Missing and Root. -/
import Derived.Test.YtmhphmolbjjopaaDoorFac
namespace Go.Proofs.YtmhphmolbjjopaaDoor
open Go.RowKit Go.Maps Go.Sort Go.Shelf

theorem SetP.below {w w' : World} {q : Option Addr} {es : List Ent} (h : SetP w q es) (hb : Below w.heap.size w w') : SetP w' q es := by
  rcases h with h | ⟨p, b, e, hS, hG⟩
  · exact .inl h
  · exact .inr ⟨p, b, e, hS.below hb, hG⟩
theorem SetP.asc {w : World} {q : Option Addr} {es : List Ent} (h : SetP w q es) : Asc es := by
  rcases h with ⟨_, rfl⟩ | ⟨p, b, e, hS, hG⟩
  · exact List.Pairwise.nil
  · exact hG.1
theorem HasP (q : Option Addr) (es : List Ent) (k : ByteArray) (w : World) (h : SetP w q es) (hk : k.size ≤ maxLen) :
    Calls Tryd.prog 17 #[.pointer q, .string k] w fun e W' => e = .returned (.bool (hasE es k.data.toList)) ∧ Below w.heap.size w W' := by
  rcases h with ⟨rfl, rfl⟩ | ⟨p, b, rfl, hS, hG⟩
  · exact (Has_nil k w).mono fun _ _ ⟨h1, h2⟩ => ⟨h1, h2 ▸ Below.refl _ _⟩
  · exact Has_calls p b es k w hS hG.2.1 hk
/-- A map of truths of one's own. -/
def MapB (w : World) (b : Nat) (es : List Ent) : Prop := w.ownsMap Tryd.prog 9 valR b es.length (dS es)
theorem MapB.store {w : World} {b : Nat} {es : List Ent} (h : MapB w b es) (ha : Asc es) (hn : es.length < maxLen) (k : ByteArray) (hk : k.size ≤ maxLen) (x : Value) :
    ∃ w', (Instr.mapUpdate 71 (.map (some b)) (.string k) x).run Tryd.prog w = .ok () w' ∧ MapB w' b (putE k.data.toList x es) ∧ w.grownBy w' (some b) := by
  obtain ⟨w', hrun, hown, hg⟩ := World.ownsMap.update h (string_keyed Tryd.underlying9) Tryd.underlying71 hn (key_lit hk) (show valR x = some (.held x, []) from rfl)
  rw [put_dS ha] at hown
  refine ⟨w', hrun, ?_, hg⟩
  have := owns_tight hown
  rw [size_dS] at this
  exact this
/-- What the loop of Missing has put into its map. -/
def missTo (es : List Ent) (ids : List (List UInt8)) (k : Nat) : List Ent := missE es (ids.take k)
theorem missTo_asc (es : List Ent) (ids : List (List UInt8)) (k : Nat) : Asc (missTo es ids k) := missE_asc _ _
theorem missTo_succ (es : List Ent) (ids : List (List UInt8)) (k : Nat) (h : k < ids.length) : missTo es ids (k + 1) = if hasE es (ids.getD k []) = true then missTo es ids k else putE (ids.getD k []) (.bool true) (missTo es ids k) := by
  unfold missTo missE
  rw [List.take_succ_eq_append_getElem h, List.foldl_append, List.getD_eq_getElem?_getD, List.getElem?_eq_getElem h]
  rfl
theorem missTo_length (es : List Ent) (ids : List (List UInt8)) (k : Nat) : (missTo es ids k).length ≤ ids.length := by
  have h1 := missK_length_le es (ids.take k)
  unfold missK at h1
  rw [List.length_map, List.length_take] at h1
  unfold missTo
  omega
set_option maxRecDepth 100000 in
theorem Missing_calls (q : Option Addr) (es : List Ent) (ids : List Bs) (A : Option Addr) (cap : Nat) (w : World) (hS : SetP w q es) (hA : Strs w A ids) (hl : ids.length ≤ 1000000) (_hc : ids.length ≤ cap) (hx : ∀ x ∈ ids, x.length ≤ 281474976710656) :
    Calls Tryd.prog 27 #[.pointer q, .slice A ids.length cap] w fun e W' => ∃ v, e = .returned v ∧ RowS W' w.heap.size v (missK es ids) ∧ (v = .slice none 0 0 ↔ missK es ids = []) ∧ Below w.heap.size w W' := by
  have hmm := @run_makeMap Tryd.prog
  have HA := Lib.hid hA
  have HS := Lib.hid hS
  have HX := Lib.hid hx
  clear hA hS hx
  go_enter Tryd.func27, Tryd.ntmps27
  go_wp2_with fail
  go_loopw [11] (fun iv wr => ∃ k : Nat, k ≤ ids.length ∧ iv = .int .i64 k ∧ Hid (MapB wr w.heap.size (missTo es ids k)) ∧ Below w.heap.size w wr) (fun iv _ => ids.length - (intOf iv).toNat)
  case atStart =>
    exact ⟨0, by omega, rfl, Lib.hid (World.ownsMap_made w Tryd.prog 9 valR), (Below.refl _ w).alloc (Nat.le_refl _) _⟩
  case round =>
    obtain ⟨k, hk, rfl, HM, bR⟩ := hrel
    by_cases hlt : k < ids.length
    · rcases HA.out with hz | ⟨g, o, rfl, hst⟩
      · rw [hz] at hlt; exact absurd hlt (by simp)
      · have c1 : wr.cell? ⟨g, o + k, none⟩ = some (.string ⟨(ids.getD k []).toArray⟩) := (bR.cell (p := ⟨g, o + k, none⟩) (lt_of_cell (hst k hlt))).trans (hst k hlt)
        have k1 : (k : Int) < (ids.length : Int) := by omega
        have k0 : 0 ≤ (k : Int) := by omega
        have hsz : (ids.getD k []).length ≤ 281474976710656 := by
          rw [List.getD_eq_getElem?_getD, List.getElem?_eq_getElem hlt]
          exact HX.out _ (List.getElem_mem hlt)
        have hsz1 : (⟨(ids.getD k []).toArray⟩ : ByteArray).size ≤ 281474976710656 := hsz
        have hsz2 : (⟨(ids.getD k []).toArray⟩ : ByteArray).size ≤ maxLen := by unfold maxLen; omega
        have HH := Lib.hid (HasP q es ⟨(ids.getD k []).toArray⟩ wr (HS.out.below bR) hsz2)
        have HC := Lib.hid (fun W => Clone_calls ⟨(ids.getD k []).toArray⟩ W hsz1)
        have hlen := missTo_length es ids k
        have HU := Lib.hid (fun (W : World) (h : MapB W w.heap.size (missTo es ids k)) => h.store (missTo_asc es ids k) (by unfold maxLen; omega) ⟨(ids.getD k []).toArray⟩ hsz2 (.bool true))
        have Hsucc := Lib.hid (missTo_succ es ids k hlt)
        have hdl : (⟨(ids.getD k []).toArray⟩ : ByteArray).data.toList = ids.getD k [] := by simp
        rw [hdl] at HH HU
        clear hsz hsz1 hsz2 hst hdl hlen
        generalize (⟨(ids.getD k []).toArray⟩ : ByteArray) = key at *
        cases hb : hasE es (ids.getD k []) with
        | true =>
          rw [hb] at HH Hsucc
          go_wp2_with fail
          refine HH.out.mono ?_
          rintro e W1 ⟨rfl, b1⟩
          have HM1 := Lib.hid (World.ownsMap.kept HM.out (grown_of_below b1) (by simp))
          have B1 := bR.trans (b1.mono bR.size)
          go_wp2_with fail
          go_roundw
          case rel => exact ⟨k + 1, by omega, by go_num, Lib.hid (by rw [Hsucc.out]; exact HM1.out), B1⟩
          case measure => simp [intOf]; omega
        | false =>
          rw [hb] at HH Hsucc
          go_wp2_with fail
          refine HH.out.mono ?_
          rintro e W1 ⟨rfl, b1⟩
          have HM1 := Lib.hid (World.ownsMap.kept HM.out (grown_of_below b1) (by simp))
          have B1 := bR.trans (b1.mono bR.size)
          clear b1
          go_wp2_with fail
          refine (HC.out _).mono ?_
          rintro e W2 ⟨rfl, b2⟩
          have hM2 := World.ownsMap.kept HM1.out (grown_of_below b2) (by simp)
          have B2 := B1.trans (b2.mono B1.size)
          obtain ⟨W3, hrun, hM3, hg⟩ := HU.out W2 hM2
          have HM3 := Lib.hid hM3
          have B3 := B2.grown hg B2.size (fun j e => by cases e; exact Nat.le_refl _)
          clear b2 hM2 hM3 hg
          go_wp2_with fail
          go_roundw
          case rel => exact ⟨k + 1, by omega, by go_num, Lib.hid (by rw [Hsucc.out]; exact HM3.out), B3⟩
          case measure => simp [intOf]; omega
    · obtain rfl : k = ids.length := by omega
      have hfin : missTo es ids ids.length = missE es ids := by unfold missTo; rw [List.take_length]
      rw [hfin] at HM
      have hlen := missTo_length es ids ids.length
      rw [hfin] at hlen
      have k1 : ¬ ((ids.length : Int) < (ids.length : Int)) := by omega
      have HK := Lib.hid (callsIn_wide.1 (keysB_calls (some w.heap.size) wr))
      have HT := Lib.hid (callsIn_wide.1 (sortedB_calls w.heap.size _ valR (missE es ids) wr HM.out (missE_asc es ids) (by omega)))
      have hsz := bR.size
      clear hlt hfin hlen
      go_wp2_with fail
      refine HK.out.mono ?_
      rintro e W1 ⟨rfl, rfl⟩
      go_wp2_with fail
      refine HT.out.mono ?_
      rintro e W2 ⟨v, rfl, hrow, hnil, b2⟩
      go_wp2_with fail
      go_ret
      refine ⟨v, rfl, ownsRow_base_a hrow (by omega), ?_, bR.trans (b2.mono hsz)⟩
      rw [hnil]
      unfold missK
      rw [List.map_eq_nil_iff]

/-! ### Root -/
/-- The IDs of a set. -/
def idsE (es : List Ent) : List Bs := es.map (·.1)
/-- A set's root. -/
def rootE (q : Option Addr) (es : List Ent) : Bs := if q = none then [] else rootF shaF (idsE es)
set_option maxRecDepth 100000 in
theorem Root_nil (w : World) : Calls Tryd.prog 24 #[.pointer none] w fun e W' => e = .returned (.string ⟨#[]⟩) ∧ w = W' := by
  go_enter Tryd.func24, Tryd.ntmps24
  go_wp2_with fail
  go_ret
  exact ⟨rfl, rfl⟩
set_option maxRecDepth 100000 in
theorem RootSet (p b : Nat) (es : List Ent) (w : World) (hK : Konst w) (hS : SetAt w p b es) (hG : Good es) :
    Calls Tryd.prog 24 #[.pointer (some ⟨p, 0, none⟩)] w fun e W' => e = .returned (.string ⟨(rootF shaF (idsE es)).toArray⟩) ∧ Below w.heap.size w W' := by
  have HI := Lib.hid (IDs_calls (some ⟨p, 0, none⟩) es w (.inr ⟨p, b, rfl, hS, hG⟩))
  have HK := Lib.hid hK
  have hl : (idsE es).length ≤ 1000000 := by unfold idsE; rw [List.length_map]; have := hG.2.2; omega
  have hx : ∀ x ∈ idsE es, x.length ≤ 1000000000 := by
    intro x hx
    unfold idsE at hx
    obtain ⟨y, hy, rfl⟩ := List.mem_map.1 hx
    rw [good_key hG hy]; decide
  have HR := Lib.hid (fun (W : World) (h : Below w.heap.size w W) (A : Option Addr) (cap : Nat) (hc : (idsE es).length ≤ cap) (hs : Strs W A (idsE es)) => Root_calls (idsE es) A cap W (hK.keep h) hl hc hs hx)
  rw [show es.map (·.1) = idsE es from rfl] at HI
  clear hK hS hG hl hx
  generalize (⟨(rootF shaF (idsE es)).toArray⟩ : ByteArray) = R at *
  generalize idsE es = ids at *
  go_enter Tryd.func24, Tryd.ntmps24
  go_wp2_with fail
  refine HI.out.mono ?_
  rintro e W1 ⟨v, rfl, hrow, b1⟩
  obtain ⟨A, cap, rfl, hcap, hs⟩ := RowS.slice hrow
  have hcall := HR.out W1 b1 A cap hcap hs
  clear hrow hcap hs
  go_wp2_with fail
  refine hcall.mono ?_
  rintro e W2 ⟨rfl, b2⟩
  go_wp2_with fail
  go_ret
  exact ⟨rfl, b1.trans (b2.mono b1.size)⟩
end Go.Proofs.YtmhphmolbjjopaaDoor
