/- Rsu and Rsv and Rsx and Rsy and Mtp -/
import Derived.Test.YtnndnjnpkjpkpaaGreatDoorRst
import Derived.Test.YtnndnjnpkjpkpaaGreatDoorRfE2
import Derived.Deep.MidRow
namespace Go.Proofs.YtnndnjnpkjpkpaaGreatDoor
open Go Go.RowKit Go.Maps
theorem map_take_succ {β : Type} (f : El → β) (l : List El) (i : Nat) (h : i < l.length) : (l.take (i + 1)).map f = (l.take i).map f ++ [f (l.getD i zeroE)] := by
  rw [List.take_succ_eq_append_getElem h, List.map_append, List.getD_eq_getElem?_getD, List.getElem?_eq_getElem h]
  rfl
theorem esR_ids (l : List El) : idsE (esR l) = l.map (·.1) := by unfold idsE esR; rw [List.map_map]; rfl
/-- What a walk knows of a set while it only reads. -/
def ReadsR (w : World) (p : Nat) (A : Option Addr) (cap : Nat) (l : List El) : Prop := ∀ W, Below w.heap.size w W → W.cell? ⟨p, 0, none⟩ = some (.slice A l.length cap) ∧ (l = [] ∨ ∃ g, A = some ⟨g, 0, none⟩ ∧ ElAt W g l)
theorem RSetAt.readsR {w : World} {p : Nat} {v : Value} {l : List El} (h : RSetAt w p v l) : ∃ A cap, v = .slice A l.length cap ∧ l.length ≤ cap ∧ ReadsR w p A cap l := by
  obtain ⟨A, cap, rfl, hc, _⟩ := h.reads
  refine ⟨A, cap, rfl, hc, fun W hb => ?_⟩
  have h2 := h.below hb
  refine ⟨h2.cell, ?_⟩
  obtain ⟨A', cap', e, _, h3⟩ := h2.reads
  injection e with e1 e2 e3
  subst e1
  exact h3
set_option maxRecDepth 100000 in
theorem rIDs_calls (p : Nat) (v : Value) (l : List El) (w : World) (hS : RSetAt w p v l) (hn : l.length ≤ 100000) :
    Calls Tryz.prog 12 #[.pointer (some ⟨p, 0, none⟩)] w fun e W' => ∃ v', e = .returned v' ∧ RowS W' w.heap.size v' (idsE (esR l)) ∧ Below w.heap.size w W' := by
  rw [esR_ids]
  obtain ⟨A, cap, rfl, hcap, hR⟩ := hS.readsR
  have HR := Lib.hid hR
  clear hS hR
  have c0 := (HR.out w (Below.refl _ _)).1
  go_enter Tryz.func12, Tryz.ntmps12
  go_wp2_with fail
  clear c0
  go_loopw [3, 4] (fun ov iv wr => ∃ i : Nat, i ≤ l.length ∧ iv = .int .i64 i ∧ Hid (RowS wr w.heap.size ov ((l.take i).map (·.1))) ∧ Hid (Below w.heap.size w wr)) (fun _ iv _ => l.length - (intOf iv).toNat)
  case atStart => exact ⟨0, by omega, rfl, Lib.hid (RowS.nil w w.heap.size), Lib.hid (Below.refl _ _)⟩
  case round =>
    obtain ⟨i, hi, rfl, R, B⟩ := hrel
    have i0 : (0 : Int) ≤ (i : Int) := by omega
    obtain ⟨c0, hL⟩ := HR.out wr B.out
    by_cases hlt : i < l.length
    · have i1 : (i : Int) < (l.length : Int) := by omega
      rcases hL with hz | ⟨g, rfl, hat⟩
      · rw [hz] at hlt; exact absurd hlt (by simp)
      have c1 := hat.id hlt
      have hlb : ((l.take i).map (·.1)).length + 1 ≤ 1000000 := by rw [List.length_map, List.length_take]; omega
      have Hsucc := Lib.hid (map_take_succ (·.1) l i hlt)
      clear hat
      generalize (l.getD i zeroE).1 = k at *
      have hal : Below wr.heap.size wr (wr.alloc (.cells #[.string ⟨k.toArray⟩] 9)) := (Below.refl _ wr).alloc (Nat.le_refl _) _
      have hbs := B.out.size
      obtain ⟨v1, W5, happ, hrow1, hgr1⟩ := append_rows w.heap.size (wr.alloc (.cells #[.string ⟨k.toArray⟩] 9)) (RowS.below R.out hal) (Strs.oneB wr ⟨k.toArray⟩) (.inr ⟨_, rfl⟩) (c := 1) (Nat.le_trans hbs hal.size) (by rw [List.length_singleton]; exact hlb) 24
      have hk2 : (⟨k.toArray⟩ : ByteArray).data.toList = k := by simp
      rw [hk2, ← Hsucc.out] at hrow1
      replace B := Lib.hid ((B.out.trans (hal.mono hbs)).grown hgr1 (Nat.le_trans hbs hal.size) (fun j e => R.out.lt j e))
      replace R := Lib.hid hrow1
      clear hal hbs hrow1 hgr1 hlb hk2 Hsucc
      go_wp2_with (at_builtin; refine wpList_append_run rfl _ _ _ rfl _ _ rfl rfl happ ?_)
      go_roundw
      case rel => exact ⟨i + 1, by omega, by go_num, R, B⟩
      case measure => simp [intOf]; omega
    · obtain rfl : i = l.length := by omega
      have i1 : (l.length : Int) ≤ (l.length : Int) := by omega
      rw [List.take_length] at R
      clear hL
      go_wp2_with fail
      go_ret
      exact ⟨_, rfl, R.out, B.out⟩
set_option maxRecDepth 100000 in
theorem rFacts_calls (p : Nat) (v : Value) (l : List El) (w : World) (hS : RSetAt w p v l) (hn : l.length ≤ 100000) :
    Calls Tryz.prog 19 #[.pointer (some ⟨p, 0, none⟩)] w fun e W' => ∃ v', e = .returned v' ∧ RowA W' w.heap.size v' (l.map (·.2)) ∧ Below w.heap.size w W' := by
  obtain ⟨A, cap, rfl, hcap, hR⟩ := hS.readsR
  have HR := Lib.hid hR
  clear hS hR
  have c0 := (HR.out w (Below.refl _ _)).1
  go_enter Tryz.func19, Tryz.ntmps19
  go_wp2_with fail
  clear c0
  go_loopw [3, 4] (fun ov iv wr => ∃ i : Nat, i ≤ l.length ∧ iv = .int .i64 i ∧ Hid (RowA wr w.heap.size ov ((l.take i).map (·.2))) ∧ Hid (Below w.heap.size w wr)) (fun _ iv _ => l.length - (intOf iv).toNat)
  case atStart => exact ⟨0, by omega, rfl, Lib.hid (RowA.nil w w.heap.size), Lib.hid (Below.refl _ _)⟩
  case round =>
    obtain ⟨i, hi, rfl, R, B⟩ := hrel
    have i0 : (0 : Int) ≤ (i : Int) := by omega
    obtain ⟨c0, hL⟩ := HR.out wr B.out
    by_cases hlt : i < l.length
    · have i1 : (i : Int) < (l.length : Int) := by omega
      rcases hL with hz | ⟨g, rfl, hat⟩
      · rw [hz] at hlt; exact absurd hlt (by simp)
      have HF := Lib.hid (hat.fact hlt)
      have hlb : ((l.take i).map (·.2)).length ≤ 1000000 := by rw [List.length_map, List.length_take]; omega
      have Hsucc := Lib.hid (map_take_succ (·.2) l i hlt)
      clear hat
      generalize (l.getD i zeroE).2 = f at *
      obtain ⟨u, t⟩ := f
      have hbd := build_fact u t wr
      have hal : Below wr.heap.size wr (wr.alloc (.cells (factC u t) 40)) := (Below.refl _ wr).alloc (Nat.le_refl _) _
      have hbs := B.out.size
      obtain ⟨v1, W5, happ, hrow1, hgr1⟩ := appendA w.heap.size (wr.alloc (.cells (factC u t) 40)) (RowA.below R.out hal) (u, t) wr.heap.size (heap_new wr _) (Nat.le_trans hbs hal.size) hlb 22
      rw [← Hsucc.out] at hrow1
      replace B := Lib.hid ((B.out.trans (hal.mono hbs)).grown hgr1 (Nat.le_trans hbs hal.size) (fun j e => R.out.lt j e))
      replace R := Lib.hid hrow1
      clear hal hbs hrow1 hgr1 hlb Hsucc
      go_wp2_with (first
        | refine wpList_load_at rfl _ rfl g (i * 19 + 1) rfl u t HF.out ?_
        | (refine wpList_build1 rfl 22 _ rfl (.agg (factC u t)) rfl hbd ?_)
        | (at_builtin; refine wpList_append_run rfl _ _ _ rfl _ _ rfl rfl happ ?_))
      go_roundw
      case rel => exact ⟨i + 1, by omega, by go_num, R, B⟩
      case measure => simp [intOf]; omega
    · obtain rfl : i = l.length := by omega
      have i1 : (l.length : Int) ≤ (l.length : Int) := by omega
      rw [List.take_length] at R
      clear hL
      go_wp2_with fail
      go_ret
      exact ⟨_, rfl, R.out, B.out⟩
theorem rRoot_calls (p : Nat) (v : Value) (l : List El) (w : World) (hS : RSetAt w p v l) (hn : l.length ≤ 100000) (hx : ∀ k ∈ idsE (esR l), k.length ≤ 400000) :
    Calls Tryz.prog 24 #[.pointer (some ⟨p, 0, none⟩)] w fun e W' => e = .returned (.string ⟨(rootF shaF (idsE (esR l))).toArray⟩) ∧ Below w.heap.size w W' := by
  have HI := Lib.hid (rIDs_calls p v l w hS hn)
  have hl : (idsE (esR l)).length ≤ 1000000 := by rw [esR_ids, List.length_map]; omega
  clear hS
  go_enter Tryz.func24, Tryz.ntmps24
  go_wp2_with fail
  refine HI.out.mono ?_
  rintro e W1 ⟨v', rfl, hrow, b1⟩
  obtain ⟨A1, c1, rfl, hc1, hs1⟩ := RowS.slice hrow
  have B1 := Lib.hid b1
  have H1 := Lib.hid hs1
  have HX := Lib.hid hx
  clear hrow hs1 b1 HI hx
  generalize hKe : idsE (esR l) = K at *
  have HKe := Lib.hid hKe
  clear hKe
  go_wp2_with fail
  refine (refRoot_calls K A1 c1 W1 hl hc1 H1.out HX.out).mono ?_
  rintro e W2 ⟨rfl, b2⟩
  go_wp2_with fail
  go_ret
  exact ⟨by rw [HKe.out]; rfl, B1.out.trans (b2.mono B1.out.size)⟩
theorem KeptR.after {w w1 W' : World} {p : Nat} {v : Value} (hb : Below w.heap.size w w1) (h : KeptR w1 W' p v) : KeptR w W' p v :=
  KeptR.trans (KeptR.of hb p v) h (.inl rfl)
theorem Turned.after {w w1 : World} {v v' : Value} (hb : Below w.heap.size w w1) (h : Turned w1 v v') : Turned w v v' :=
  Turned.trans hb.size (.inl rfl) h
set_option maxRecDepth 100000 in
set_option maxHeartbeats 4000000 in
theorem rAdd_calls (p : Nat) (v : Value) (l : List El) (f : Fa) (w : World) (hS : RSetAt w p v l) (hA : Asc (esR l)) (hn : l.length ≤ 100000) :
    Calls Tryz.prog 9 #[.pointer (some ⟨p, 0, none⟩), .agg (factC f.1 f.2)] w fun e W' => e = .returned (.tuple #[.bool (plusB (esR l) f), .int .i64 (plusN (esR l) f)]) ∧ ∃ v' l', RSetAt W' p v' l' ∧ esR l' = plusE (esR l) f ∧ Turned w v v' ∧ KeptR w W' p v := by
  obtain ⟨u, t⟩ := f
  have hbox : Below w.heap.size w (w.alloc (.cells (factC u t) 40)) := (Below.refl _ w).alloc (Nat.le_refl _) _
  have f0 := heap_new w (.cells (factC u t) 40)
  obtain ⟨w1, hw1⟩ : ∃ w1, w.alloc (.cells (factC u t) 40) = w1 := ⟨_, rfl⟩
  rw [hw1] at hbox f0
  have S := Lib.hid (hS.below hbox)
  have B := Lib.hid hbox
  have F := Lib.hid f0
  have HA := Lib.hid hA
  have HV := Lib.hid (fun W => refValid_calls u t W)
  have HID := Lib.hid (fun W => refID_calls u t W)
  have HH := Lib.hid (fun (k : ByteArray) W hS => rHas_calls p v l k W hS hA (by omega))
  have HP := Lib.hid (fun (x : El) W hS => rput_calls p v l x W hS hA hn)
  obtain ⟨A, cap, rfl, hcap, -⟩ := hS.reads
  clear hS hbox f0 hA
  generalize factC u t = cs at hw1 ⊢
  go_enter Tryz.func9, Tryz.ntmps9
  go_wp2_with (refine wpList_load_fact rfl _ rfl w.heap.size rfl u t F.out ?_)
  refine (HV.out _).mono ?_
  rintro e W2 ⟨rfl, b3⟩
  replace S := Lib.hid (S.out.below b3)
  replace F := Lib.hid ((b3.block _ (Array.getElem?_eq_some_iff.1 F.out).1).trans F.out)
  replace B := Lib.hid (B.out.trans (b3.mono B.out.size))
  clear b3 HV hw1
  cases ho : okT u t with
  | false =>
    have hb : plusB (esR l) (u, t) = false := by unfold plusB; rw [show okA (u, t) = false from ho]; rfl
    have hm : plusN (esR l) (u, t) = 60 := by unfold plusN; rw [if_neg (by rw [show okA (u, t) = false from ho]; decide)]
    have he : plusE (esR l) (u, t) = esR l := by unfold plusE; rw [show okA (u, t) = false from ho]; rfl
    have HR := Lib.hid (And.intro hb (And.intro hm he))
    clear hb hm he
    go_wp2_with fail
    go_ret2
    exact ⟨by rw [HR.out.1, HR.out.2.1]; rfl, _, l, S.out, HR.out.2.2.symm, .inl rfl, KeptR.of B.out p _⟩
  | true =>
    have e1 : idF u t = keyF (u, t) := by unfold idF; rw [ho]; rfl
    rw [e1] at HID
    have Ho := Lib.hid ho
    obtain ⟨k, hk⟩ : ∃ k, keyF (u, t) = k := ⟨_, rfl⟩
    rw [hk] at HID
    have Hk := Lib.hid hk
    have hd : (⟨k.toArray⟩ : ByteArray).data.toList = k := by simp
    have HH2 := HH.out ⟨k.toArray⟩
    rw [hd] at HH2
    have HH3 := Lib.hid HH2
    have HP2 := Lib.hid (HP.out (k, (u, t)))
    clear e1 hk hd HH2 HH ho HP
    go_wp2_with (refine wpList_load_fact rfl _ rfl w.heap.size rfl u t F.out ?_)
    refine (HID.out _).mono ?_
    rintro e W3 ⟨rfl, b3⟩
    replace S := Lib.hid (S.out.below b3)
    replace F := Lib.hid ((b3.block _ (Array.getElem?_eq_some_iff.1 F.out).1).trans F.out)
    replace B := Lib.hid (B.out.trans (b3.mono B.out.size))
    clear b3 HID
    go_wp2_with fail
    refine (HH3.out _ S.out).mono ?_
    rintro e W4 ⟨rfl, rfl⟩
    clear HH3
    have c0 := S.out.cell
    cases hh : hasE (esR l) k with
    | true =>
      have hb : plusB (esR l) (u, t) = false := by unfold plusB; rw [Hk.out, hh]; simp
      have hm : plusN (esR l) (u, t) = 0 := by unfold plusN; rw [if_pos (show okA (u, t) = true from Ho.out), Hk.out, if_pos hh]
      have he : plusE (esR l) (u, t) = esR l := by unfold plusE; rw [Hk.out, hh]; simp
      have HR := Lib.hid (And.intro hb (And.intro hm he))
      clear hb hm he c0
      go_wp2_with fail
      go_ret2
      exact ⟨by rw [HR.out.1, HR.out.2.1]; rfl, _, l, S.out, HR.out.2.2.symm, .inl rfl, KeptR.of B.out p _⟩
    | false =>
      have hle : (esR l).length = l.length := esR_length l
      by_cases hl : l.length < 4000
      · have hb : plusB (esR l) (u, t) = true := by unfold plusB; rw [Hk.out, hh, show okA (u, t) = true from Ho.out, hle, decide_eq_true hl]; rfl
        have hm : plusN (esR l) (u, t) = 0 := by unfold plusN; rw [if_pos (show okA (u, t) = true from Ho.out), Hk.out, if_neg (by rw [hh]; decide), hle, if_pos hl]
        have he : plusE (esR l) (u, t) = putX (esR l) (k, (u, t)) := by unfold plusE putX; rw [Hk.out, hh, show okA (u, t) = true from Ho.out, hle, decide_eq_true hl]; rfl
        have HR := Lib.hid (And.intro hb (And.intro hm he))
        have hl2 : ¬ (4000 : Int) ≤ (l.length : Int) := by omega
        clear hb hm he hh hle
        go_wp2_with (refine wpList_load_fact rfl _ rfl w.heap.size rfl u t F.out ?_)
        refine (HP2.out _ S.out).mono ?_
        rintro e W5 ⟨rfl, v', l', hS', hes, hT, hKp⟩
        have HE := Lib.hid (And.intro hS' (And.intro (hes.trans HR.out.2.2.symm) (And.intro (Turned.after B.out hT) (KeptR.after B.out hKp))))
        clear hS' hes hT hKp
        go_wp2_with fail
        go_ret2
        exact ⟨by rw [HR.out.1, HR.out.2.1]; rfl, v', l', HE.out⟩
      · have hb : plusB (esR l) (u, t) = false := by unfold plusB; rw [Hk.out, hh, hle, decide_eq_false hl]; simp
        have hm : plusN (esR l) (u, t) = 60 := by unfold plusN; rw [if_pos (show okA (u, t) = true from Ho.out), Hk.out, if_neg (by rw [hh]; decide), hle, if_neg hl]
        have he : plusE (esR l) (u, t) = esR l := by unfold plusE; rw [Hk.out, hh, hle, decide_eq_false hl]; simp
        have HR := Lib.hid (And.intro hb (And.intro hm he))
        have hl2 : (4000 : Int) ≤ (l.length : Int) := by omega
        clear hb hm he hh hle
        go_wp2_with fail
        go_ret2
        exact ⟨by rw [HR.out.1, HR.out.2.1]; rfl, _, l, S.out, HR.out.2.2.symm, .inl rfl, KeptR.of B.out p _⟩
end Go.Proofs.YtnndnjnpkjpkpaaGreatDoor
namespace Go.Proofs.YtnndnjnpkjpkpaaGreatDoor
open Go Go.RowKit Go.Maps
theorem RowS.weakZ {w : World} {b c : Nat} {v : Value} {l : List Bs} (h : RowS w c v l) (hb : b ≤ c) : RowS w b v l :=
  ⟨h.1, h.2.elim .inl (fun ⟨g, cap, cur, h1, h2, h3⟩ => .inr ⟨g, cap, cur, h1, Nat.le_trans hb h2, h3⟩)⟩
/-- Setting what is set already. -/
theorem put_same {es : List Ent} (h : Asc es) {k : Bs} {x : Value} (hg : getE es k = some x) : putE k x es = es :=
  asc_ext (putE_asc h) h (fun k' => by
    rw [putE_get h]
    split
    · rename_i e; rw [← e, hg]
    · rfl)
/-- All values alike. -/
def flat (c : Value) (es : List Ent) : List Ent := es.map fun p => (p.1, c)
theorem flat_asc {c : Value} {es : List Ent} (h : Asc es) : Asc (flat c es) := by
  unfold Asc flat
  rw [List.pairwise_map]
  exact h
theorem flat_put (c : Value) (k : Bs) (x : Value) : ∀ es : List Ent, flat c (putE k x es) = putE k c (flat c es)
  | [] => rfl
  | p :: r => by
    have ih := flat_put c k x r
    show flat c (putE k x (p :: r)) = putE k c ((p.1, c) :: flat c r)
    unfold putE
    by_cases h1 : p.1 = k
    · rw [if_pos h1, if_pos h1]; rfl
    · rw [if_neg h1, if_neg h1]
      by_cases h2 : Op.bytesLess k p.1 = true
      · rw [if_pos h2, if_pos h2]; rfl
      · rw [if_neg h2, if_neg h2, ← ih]; rfl
theorem flat_get (c : Value) (k : Bs) : ∀ es : List Ent, getE (flat c es) k = (getE es k).map fun _ => c
  | [] => rfl
  | p :: r => by
    have ih := flat_get c k r
    show getE ((p.1, c) :: flat c r) k = (getE (p :: r) k).map fun _ => c
    unfold getE
    by_cases h1 : p.1 = k
    · rw [if_pos h1, if_pos h1]; rfl
    · rw [if_neg h1, if_neg h1, ih]
theorem flat_keys (c : Value) (es : List Ent) : idsE (flat c es) = idsE es := by unfold idsE flat; rw [List.map_map]; rfl
theorem putX_flat {es : List Ent} (h : Asc es) (k : Bs) (x : Value) : putX (flat (valF zeroA) es) (k, zeroA) = flat (valF zeroA) (putE k x es) := by
  rw [flat_put]
  unfold putX
  by_cases hh : hasE (flat (valF zeroA) es) k = true
  · rw [if_pos hh]
    have hg : getE (flat (valF zeroA) es) k = some (valF zeroA) := by
      unfold hasE at hh
      rw [flat_get] at hh ⊢
      cases hq : getE es k with
      | none => rw [hq] at hh; cases hh
      | some y => rfl
    exact (put_same (flat_asc h) hg).symm
  · rw [if_neg hh]
set_option maxRecDepth 100000 in
set_option maxHeartbeats 4000000 in
theorem rMissing_calls (p : Nat) (v : Value) (l : List El) (ids : List Bs) (A : Option Addr) (cap : Nat) (w : World) (hS : RSetAt w p v l) (hA : Asc (esR l)) (hn : l.length ≤ 100000) (hs : Strs w A ids) (hl : ids.length ≤ 20000) :
    Calls Tryz.prog 21 #[.pointer (some ⟨p, 0, none⟩), .slice A ids.length cap] w fun e W' => ∃ v', e = .returned v' ∧ RowS W' w.heap.size v' (missK (esR l) ids) ∧ Below w.heap.size w W' := by
  have HRS := Lib.hid (fun W (hb : Below w.heap.size w W) => hS.below hb)
  have KS : HS w A ids := Lib.hid hs
  have HA := Lib.hid hA
  clear hS hs hA
  obtain ⟨w1, hw1⟩ : ∃ w1, w.alloc (.cells #[.slice none 0 0] 33) = w1 := ⟨_, rfl⟩
  have hb1 : Below w.heap.size w w1 := by rw [← hw1]; exact (Below.refl _ w).alloc (Nat.le_refl _) _
  have hq1 : RSetAt w1 w.heap.size (.slice none 0 0) [] := by
    rw [← hw1]
    exact ⟨heap_new w _, ⟨rfl, .inl ⟨rfl, rfl⟩⟩, fun e => by cases e⟩
  have B1 := Lib.hid hb1
  have Q1 := Lib.hid hq1
  clear hb1 hq1
  go_enter Tryz.func21, Tryz.ntmps21
  go_upto_region 3 with (fail)
  go_loopw [6] (fun iv wr => ∃ (i : Nat) (v1 : Value) (l1 : List El), i ≤ ids.length ∧ iv = .int .i64 i ∧ Hid (RSetAt wr w.heap.size v1 l1) ∧ Hid (esR l1 = flat (valF zeroA) (missTo (esR l) ids i)) ∧ Hid (∀ g, v1.ownBlock = some g → w.heap.size ≤ g) ∧ Hid (Below w.heap.size w wr)) (fun iv _ => ids.length - (intOf iv).toNat)
  case atStart => exact ⟨0, _, [], by omega, rfl, Q1, Lib.hid rfl, Lib.hid (fun g e => by cases e), B1⟩
  case round =>
    clear Q1 B1
    obtain ⟨i, v1, l1, hi, rfl, Q, E, G, B⟩ := hrel
    have i0 : (0 : Int) ≤ (i : Int) := by omega
    have hl1 : l1.length ≤ 20000 := by
      have h := congrArg List.length E.out
      rw [esR_length] at h
      unfold flat at h
      rw [List.length_map] at h
      have := missTo_length (esR l) ids i
      omega
    have hA1 := Lib.hid (show Asc (esR l1) by rw [E.out]; exact flat_asc (missTo_asc _ _ _))
    by_cases hlt : i < ids.length
    · have i1 : (i : Int) < (ids.length : Int) := by omega
      have hms := Lib.hid (missTo_succ (esR l) ids i hlt)
      rcases Hid.out KS with hz | ⟨g, o, rfl, hst⟩
      · rw [hz] at hlt; exact absurd hlt (by simp)
      have HC := Lib.hid (fun W (hb : Below w.heap.size w W) => (StrsAt.keep hst hb) i hlt)
      have c1 := HC.out wr B.out
      clear hst
      generalize ids.getD i [] = k at *
      have hd : (⟨k.toArray⟩ : ByteArray).data.toList = k := by simp
      have HH := rHas_calls p v l ⟨k.toArray⟩ wr (HRS.out _ B.out) HA.out (by omega)
      rw [hd] at HH
      have HP := Lib.hid (rput_calls w.heap.size v1 l1 (k, zeroA) wr Q.out hA1.out (by omega))
      clear hd
      go_wp2_with fail
      refine HH.mono ?_
      rintro e W2 ⟨rfl, rfl⟩
      clear HH
      cases hh : hasE (esR l) k with
      | true =>
        have E2 := Lib.hid (show esR l1 = flat (valF zeroA) (missTo (esR l) ids (i + 1)) by rw [hms.out, if_pos hh]; exact E.out)
        clear hh
        go_wp2_with fail
        go_roundw
        case rel => exact ⟨i + 1, v1, l1, by omega, by go_num, Q, E2, G, B⟩
        case measure => simp [intOf]; omega
      | false =>
        have E2 := Lib.hid (show putX (esR l1) (k, zeroA) = flat (valF zeroA) (missTo (esR l) ids (i + 1)) by rw [hms.out, if_neg (by rw [hh]; decide), E.out]; exact putX_flat (missTo_asc _ _ _) k _)
        clear hh
        go_wp2_with fail
        refine HP.out.mono ?_
        rintro e W3 ⟨rfl, v2, l2, hQ2, hE2, hT, hK⟩
        have B3 := Lib.hid (B.out.trans (hK.below B.out.size (Nat.le_refl _) G.out))
        have G3 := Lib.hid (show ∀ g, v2.ownBlock = some g → w.heap.size ≤ g from fun g hg => by
          rcases hT with h | ⟨g2, h, h2⟩
          · rw [h] at hg; exact G.out g hg
          · rw [h] at hg; have := Option.some.inj hg; have := B.out.size; omega)
        have Q3 := Lib.hid hQ2
        have E3 := Lib.hid (hE2.trans E2.out)
        clear hQ2 hE2 hT hK HP c1
        go_wp2_with fail
        go_roundw
        case rel => exact ⟨i + 1, v2, l2, by omega, by go_num, Q3, E3, G3, B3⟩
        case measure => simp [intOf]; omega
    · obtain rfl : i = ids.length := by omega
      have i1 : (ids.length : Int) ≤ (ids.length : Int) := by omega
      have hkeys := Lib.hid (show idsE (esR l1) = missK (esR l) ids by rw [E.out, flat_keys]; unfold missTo; rw [List.take_length]; rfl)
      go_wp2_with fail
      refine (rIDs_calls w.heap.size v1 l1 wr Q.out (by omega)).mono ?_
      rintro e W3 ⟨v', rfl, hrow, b3⟩
      rw [hkeys.out] at hrow
      have R3 := Lib.hid (hrow.weakZ B.out.size)
      have B3 := Lib.hid (B.out.trans (b3.mono B.out.size))
      clear hrow b3
      go_wp2_with fail
      go_ret
      exact ⟨_, rfl, R3.out, B3.out⟩
end Go.Proofs.YtnndnjnpkjpkpaaGreatDoor
namespace Go.Proofs.YtnndnjnpkjpkpaaGreatDoor
open Go Go.RowKit Go.Maps
theorem look_elR (l : List El) (k : Bs) : ∃ f : Fa, lookE (esR l) k = valF f := by
  unfold lookE
  cases hg : getE (esR l) k with
  | none => exact ⟨zeroA, rfl⟩
  | some x =>
    have h := getE_mem hg
    unfold esR at h
    obtain ⟨e, _, he⟩ := List.mem_map.1 h
    exact ⟨e.2, (congrArg Prod.snd he).symm⟩
theorem miss_noneZ {es : List Ent} {ks : List Bs} (h : ∀ k ∈ ks, hasE es k = true) : missK es ks = [] := List.eq_nil_iff_forall_not_mem.2 (fun k hk => by
    obtain ⟨h1, h2⟩ := (mem_missK es ks k).1 hk
    rw [h k h1] at h2; cases h2)
theorem part_take {es : List Ent} {ids : List Bs} {i : Nat} (h : ∀ j, j < i → j < ids.length → hasE es (ids.getD j []) = true) : missK es (ids.take i) = [] := miss_noneZ (fun k hk => by
  obtain ⟨j, hj, rfl⟩ := List.mem_iff_getElem.1 hk
  rw [List.length_take] at hj
  have h1 := h j (by omega) (by omega)
  rw [List.getD_eq_getElem?_getD, List.getElem?_eq_getElem (show j < ids.length by omega)] at h1
  rw [List.getElem_take]
  exact h1)
theorem part_succ {es : List Ent} {ids : List Bs} {i : Nat} (hi : i < ids.length) (hm : missK es (ids.take i) = []) {f : Fa} (hh : hasE es (ids.getD i []) = true) (hf : lookE es (ids.getD i []) = valF f) :
    putX (partE es (ids.take i)) (ids.getD i [], f) = partE es (ids.take (i + 1)) := by
  have hg : getE es (ids.getD i []) = some (valF f) := by rw [has_get hh, hf]
  unfold partE
  rw [putAll_succ es [] ids i hi, hg, Option.getD_some]
  unfold putX
  split
  · rename_i h2
    have h3 := has_get h2
    have h4 : getE (partE es (ids.take i)) (ids.getD i []) = some (valF f) := by
      have h5 := partE_get hm (ids.getD i [])
      split at h5
      · rw [h5, hg]
      · unfold hasE at h2
        have h6 : getE (putAll es [] (ids.take i)) (ids.getD i []) = none := h5
        rw [h6] at h2; cases h2
    exact (put_same (partE_asc es (ids.take i)) h4).symm
  · rfl
set_option maxRecDepth 100000 in
theorem keep_cells {w w0 w2 : World} {g a fb : Nat} {s : Value} {o : Obj} {v1 : Value} {l1 : List El} {e : El} (hC : w0.cell? ⟨g, a, none⟩ = some s ∧ w0.heap[fb]? = some o) (hx : ∃ v2 l2, RSetAt w2 w.heap.size v2 l2 ∧ esR l2 = putX (esR l1) e ∧ Turned w0 v1 v2 ∧ KeptR w0 w2 w.heap.size v1)
    (hg : g < w.heap.size) (hv : ∀ q, v1.ownBlock = some q → w.heap.size ≤ q) (hf : w.heap.size < fb ∧ ∀ q, v1.ownBlock = some q → q < fb) : w2.cell? ⟨g, a, none⟩ = some s ∧ w2.heap[fb]? = some o := by
  obtain ⟨_, _, _, _, _, hK⟩ := hx
  have h1 : g < w0.heap.size := lt_of_cell hC.1
  have h2 : fb < w0.heap.size := (Array.getElem?_eq_some_iff.1 hC.2).1
  refine ⟨?_, ?_⟩
  · rw [World.cell?_of_block (hK.2.2.2.2 g h1 (by omega) (fun e => by have := hv g e; omega))]; exact hC.1
  · rw [hK.2.2.2.2 fb h2 (by omega) (fun e => by have := hf.2 fb e; omega)]; exact hC.2
section
variable {P : Program} {ops : Array Oper} {C : World → Prop} {Q : Exit → Act → World → Prop}
theorem mix_stand_callZ {o : Oper} {l : List Oper} {bs : List Bool} {a : Act} {w : World} (R : Value → World → Prop) (f : FuncId) (args : Array Value) (hw : Region.wanted o (yielded ops a.tmps) = true) (ho : (execOp a.eval o).run P w = .ok (.enter f args) w)
    (hc : Calls P f args w fun e w2 => ∃ v, e = .returned v ∧ R v w2 ∧ C w2) (k : ∀ v w', R v w' → C w' → wpMix P ops (NoPanic Q) C bs l (a.put o.dst v) w') : wpMix P ops (NoPanic Q) C (false :: bs) (o :: l) a w := by
  refine ⟨hw, ?_⟩
  simp only [Oper.wp, ho, Oper.upon]
  refine Calls.mono hc fun e w2 he => ?_
  obtain ⟨v, rfl, h1, h2⟩ := he
  exact ⟨h2, k v w2 h1 h2⟩
end
set_option maxRecDepth 100000 in
set_option maxHeartbeats 4000000 in
theorem rPart_calls (p : Nat) (v : Value) (l : List El) (ids : List Bs) (A : Option Addr) (cap : Nat) (w : World) (hS : RSetAt w p v l) (hA : Asc (esR l)) (hn : l.length ≤ 100000) (hs : Strs w A ids) (hl : ids.length ≤ 20000) :
    Calls Tryz.prog 14 #[.pointer (some ⟨p, 0, none⟩), .slice A ids.length cap] w fun e W' => ((missK (esR l) ids = [] ∧ ∃ q v1 l1, e = .returned (.tuple #[.pointer (some ⟨q, 0, none⟩), .bool true]) ∧ RSetAt W' q v1 l1 ∧ esR l1 = partE (esR l) ids ∧ w.heap.size ≤ q) ∨ (missK (esR l) ids ≠ [] ∧ e = .returned (.tuple #[.pointer none, .bool false]))) ∧ Below w.heap.size w W' := by
  have HRS := Lib.hid (fun W (hb : Below w.heap.size w W) => hS.below hb)
  have KS : HS w A ids := Lib.hid hs
  have HA := Lib.hid hA
  clear hS hs hA
  obtain ⟨w1, hw1⟩ : ∃ w1, w.alloc (.cells #[.slice none 0 0] 33) = w1 := ⟨_, rfl⟩
  have hb1 : Below w.heap.size w w1 := by rw [← hw1]; exact (Below.refl _ w).alloc (Nat.le_refl _) _
  have hq1 : RSetAt w1 w.heap.size (.slice none 0 0) [] := by
    rw [← hw1]
    exact ⟨heap_new w _, ⟨rfl, .inl ⟨rfl, rfl⟩⟩, fun e => by cases e⟩
  have B1 := Lib.hid hb1
  have Q1 := Lib.hid hq1
  clear hb1 hq1
  go_enter Tryz.func14, Tryz.ntmps14
  go_upto_region 3 with (fail)
  go_loopw [7] (fun iv wr => ∃ (i : Nat) (v1 : Value) (l1 : List El), i ≤ ids.length ∧ iv = .int .i64 i ∧ Hid (RSetAt wr w.heap.size v1 l1) ∧ Hid (esR l1 = partE (esR l) (ids.take i)) ∧ Hid (∀ j, j < i → j < ids.length → hasE (esR l) (ids.getD j []) = true) ∧ Hid (∀ g, v1.ownBlock = some g → w.heap.size ≤ g) ∧ Hid (Below w.heap.size w wr)) (fun iv _ => ids.length - (intOf iv).toNat)
  case atStart => exact ⟨0, _, [], by omega, rfl, Q1, Lib.hid rfl, Lib.hid (fun j h => absurd h (Nat.not_lt_zero j)), Lib.hid (fun g e => by cases e), B1⟩
  case round =>
    clear Q1 B1
    obtain ⟨i, v1, l1, hi, rfl, Q, E, H, G, B⟩ := hrel
    have i0 : (0 : Int) ≤ (i : Int) := by omega
    have hmt := Lib.hid (part_take H.out)
    have hl1 : l1.length ≤ 20000 := by
      have h := congrArg List.length E.out
      rw [esR_length] at h
      have h2 := putAll_len_le (t := esR l) (List.Pairwise.nil : Asc []) (ids.take i)
      have h3 : (partE (esR l) (ids.take i)).length ≤ 0 + (ids.take i).length := h2
      rw [List.length_take] at h3
      omega
    have hA1 := Lib.hid (show Asc (esR l1) by rw [E.out]; exact partE_asc _ _)
    by_cases hlt : i < ids.length
    · have i1 : (i : Int) < (ids.length : Int) := by omega
      rcases Hid.out KS with hz | ⟨g, o, rfl, hst⟩
      · rw [hz] at hlt; exact absurd hlt (by simp)
      have HC := Lib.hid (fun W (hb : Below w.heap.size w W) => (StrsAt.keep hst hb) i hlt)
      have Hgw := Lib.hid (lt_of_cell (hst i hlt))
      have c1 := HC.out wr B.out
      obtain ⟨⟨u, t⟩, hf⟩ := look_elR l (ids.getD i [])
      have hmem : ids.getD i [] ∈ ids := by rw [List.getD_eq_getElem?_getD, List.getElem?_eq_getElem hlt]; exact List.getElem_mem hlt
      have HPS := Lib.hid (fun (hh : hasE (esR l) (ids.getD i []) = true) => part_succ (es := esR l) hlt hmt.out (f := (u, t)) hh hf)
      have HMS := Lib.hid (show hasE (esR l) (ids.getD i []) = false → missK (esR l) ids ≠ [] from fun hh hm => by
        have := miss_nil hm _ hmem
        rw [hh] at this; cases this)
      have HHS := Lib.hid (show hasE (esR l) (ids.getD i []) = true → ∀ j, j < i + 1 → j < ids.length → hasE (esR l) (ids.getD j []) = true from fun hh j hj hjl => by
        rcases Nat.lt_or_ge j i with h3 | h3
        · exact H.out j h3 hjl
        · obtain rfl : j = i := by omega
          exact hh)
      clear hst hmem
      generalize ids.getD i [] = k at *
      have hd : (⟨k.toArray⟩ : ByteArray).data.toList = k := by simp
      have HG := rGet_calls p v l ⟨k.toArray⟩ wr (HRS.out _ B.out) HA.out (by omega)
      rw [hd, hf] at HG
      have HP := Lib.hid (fun W hQ => rput_calls w.heap.size v1 l1 (k, (u, t)) W hQ hA1.out (by omega))
      clear hd hf
      go_wp2_with fail
      cases hh : hasE (esR l) k with
      | false =>
        rw [hh] at HG
        have Hm := Lib.hid (HMS.out hh)
        change Calls _ _ _ _ (fun e W' => e = .returned (.tuple #[.agg (factC u t), .bool false]) ∧ _) at HG
        refine HG.mono ?_
        rintro e W2 ⟨rfl, b3⟩
        have B2 := Lib.hid (B.out.trans (b3.mono B.out.size))
        have hone := factC_one u t
        clear HG b3 hh c1
        go_upto_region 6 with (refine wpList_store_row rfl 40 _ _ rfl W2.heap.size (factC u t) rfl rfl 40 (factC (fun _ => 0) ⟨#[]⟩) (heap_new W2 _) (hiC _ _) rfl hone ?_)
        obtain ⟨W3, hWD, b3⟩ : ∃ WD, (W2.alloc (.cells (factC (fun _ => 0) ⟨#[]⟩) 40)).setRow W2.heap.size (factC u t) = WD ∧ Below W2.heap.size W2 WD :=
          ⟨_, rfl, below_setRow' ((Below.refl _ W2).alloc (Nat.le_refl _) _) _ _ (Nat.le_refl _)⟩
        rw [hWD]
        have B3 := Lib.hid (B2.out.trans (b3.mono B2.out.size))
        clear hWD b3 hone
        go_wp2_with fail
        go_ret2
        exact ⟨.inr ⟨Hm.out, rfl⟩, B3.out⟩
      | true =>
        rw [hh] at HG
        have HE := Lib.hid (HPS.out hh)
        have HH2 := Lib.hid (HHS.out hh)
        change Calls _ _ _ _ (fun e W' => e = .returned (.tuple #[.agg (factC u t), .bool true]) ∧ _) at HG
        refine HG.mono ?_
        rintro e W2 ⟨rfl, b3⟩
        have B2 := Lib.hid (B.out.trans (b3.mono B.out.size))
        have Q2 := Lib.hid (Q.out.below b3)
        have hone := factC_one u t
        clear HG b3 hh c1
        go_upto_region 6 with (refine wpList_store_row rfl 40 _ _ rfl W2.heap.size (factC u t) rfl rfl 40 (factC (fun _ => 0) ⟨#[]⟩) (heap_new W2 _) (hiC _ _) rfl hone ?_)
        obtain ⟨W8, hWD, f1, b3⟩ : ∃ WD, (W2.alloc (.cells (factC (fun _ => 0) ⟨#[]⟩) 40)).setRow W2.heap.size (factC u t) = WD ∧ WD.heap[W2.heap.size]? = some (.cells (factC u t) 40 (0, 0)) ∧ Below W2.heap.size W2 WD :=
          ⟨_, rfl, setRow_heap _ _ _ _ _ _ (heap_new W2 _), below_setRow' ((Below.refl _ W2).alloc (Nat.le_refl _) _) _ _ (Nat.le_refl _)⟩
        rw [hWD]
        have B8 := Lib.hid (B2.out.trans (b3.mono B2.out.size))
        have Q8 := Lib.hid (Q2.out.below b3)
        have F8 := Lib.hid f1
        have HFv := Lib.hid (show w.heap.size < W2.heap.size ∧ ∀ q, v1.ownBlock = some q → q < W2.heap.size from ⟨Q2.out.ltp, fun q e => Q2.out.ltv e⟩)
        clear hWD b3 hone f1
        go_upto_region 8 with (fail)
        try simp only [List.append_eq, List.cons_append, List.nil_append]
        refine wp_region_mixD (fun w' => w'.cell? ⟨g, o + i, none⟩ = some (.string ⟨k.toArray⟩) ∧ w'.heap[W2.heap.size]? = some (.cells (factC u t) 40 (0, 0))) (fun w' => Below W8.heap.size W8 w') [true, true, true, true, true, true, true, false] (by kernel_rfl) (by kernel_rfl) ⟨HC.out _ (Below.drew B8.out), F8.out⟩ (Below.drew (Below.refl _ _)) ?_
        intro w0 hC0 hD0
        refine mix_val (.pointer (some ⟨w.heap.size, 0, none⟩)) (by rfl) (fun _ _ => by first | rfl | (go_simp; done) | (go_simp; omega) | (go_simp; rfl)) ?_
        simp only [Act.put, List.setIfInBounds_toArray, List.set_cons_zero, List.set_cons_succ]
        refine mix_val (.slice (some ⟨g, o, none⟩) ids.length cap) (by rfl) (fun _ _ => by first | rfl | (go_simp; done) | (go_simp; omega) | (go_simp; rfl)) ?_
        simp only [Act.put, List.setIfInBounds_toArray, List.set_cons_zero, List.set_cons_succ]
        refine mix_val (.int .i64 (i : Int)) (by rfl) (fun _ _ => by first | rfl | (go_simp; done) | (go_simp; omega) | (go_simp; rfl)) ?_
        simp only [Act.put, List.setIfInBounds_toArray, List.set_cons_zero, List.set_cons_succ]
        refine mix_val (.pointer (some ⟨g, o + i, none⟩)) (by rfl) (fun _ _ => by first | rfl | (go_simp; done) | (go_simp; omega) | (go_simp; rfl)) ?_
        simp only [Act.put, List.setIfInBounds_toArray, List.set_cons_zero, List.set_cons_succ]
        refine mix_load_str (by rfl) _ rfl ⟨g, o + i, none⟩ rfl (.string ⟨k.toArray⟩) (fun w' hc => hc.1) ?_
        simp only [Act.put, List.setIfInBounds_toArray, List.set_cons_zero, List.set_cons_succ]
        refine mix_load_fact (by rfl) _ rfl W2.heap.size rfl u t (fun w' hc => hc.2) ?_
        simp only [Act.put, List.setIfInBounds_toArray, List.set_cons_zero, List.set_cons_succ]
        refine mix_val (.agg (elC (k, (u, t)))) (by rfl) (fun _ _ => by first | rfl | (go_simp; done) | (go_simp; omega) | (go_simp; rfl)) ?_
        simp only [Act.put, List.setIfInBounds_toArray, List.set_cons_zero, List.set_cons_succ]
        refine mix_stand_callZ (fun v' w' => v' = .tuple #[] ∧ ∃ v2 l2, RSetAt w' w.heap.size v2 l2 ∧ esR l2 = putX (esR l1) (k, (u, t)) ∧ Turned w0 v1 v2 ∧ KeptR w0 w' w.heap.size v1) 35 #[.pointer (some ⟨w.heap.size, 0, none⟩), .agg (elC (k, (u, t)))] (by rfl) (by go_simp) ((HP.out _ (Q8.out.below hD0)).mono (fun e w2 ⟨he, hx⟩ => ⟨_, he, ⟨rfl, hx⟩, keep_cells hC0 hx Hgw.out G.out HFv.out⟩)) ?_
        clear hC0
        rintro _ w9 ⟨rfl, v2, l2, hQ2, hE2, hT, hK⟩ hC9
        try simp only [Act.put, List.setIfInBounds_toArray, List.set_cons_zero, List.set_cons_succ]
        refine mix_done (P := Tryz.prog) (ops := #[]) (C := fun _ => True) ?_
        have B9 := Lib.hid (B8.out.trans ((hD0.mono B8.out.size).trans (hK.below (Nat.le_trans B8.out.size hD0.size) (Nat.le_refl _) G.out)))
        have G9 := Lib.hid (show ∀ g, v2.ownBlock = some g → w.heap.size ≤ g from fun g hg => by
          rcases hT with h | ⟨g2, h, h2⟩
          · rw [h] at hg; exact G.out g hg
          · rw [h] at hg; have := Option.some.inj hg; have := B8.out.size; have := hD0.size; omega)
        have Q9 := Lib.hid hQ2
        have E9 := Lib.hid (show esR l2 = partE (esR l) (ids.take (i + 1)) by rw [hE2, E.out]; exact HE.out)
        clear hQ2 hE2 hT hK HP hC9
        go_wp2_with fail
        go_roundw
        case rel => exact ⟨i + 1, v2, l2, by omega, by go_num, Q9, E9, HH2, G9, B9⟩
        case measure => simp [intOf]; omega
    · obtain rfl : i = ids.length := by omega
      have i1 : (ids.length : Int) ≤ (ids.length : Int) := by omega
      have hm2 := hmt.out
      have hE2 := E.out
      rw [List.take_length] at hm2 hE2
      have HM := Lib.hid hm2
      have HE := Lib.hid hE2
      clear hm2 hE2
      go_wp2_with fail
      go_ret2
      exact ⟨.inl ⟨HM.out, _, v1, l1, rfl, Q.out, HE.out, Nat.le_refl _⟩, B.out⟩
end Go.Proofs.YtnndnjnpkjpkpaaGreatDoor
namespace Go.Proofs.YtnndnjnpkjpkpaaGreatDoor
open Go Go.RowKit Go.Maps
/-- All of a list are put. -/
def putsX (es : List Ent) (m : List El) : List Ent := m.foldl putX es
theorem putX_asc {es : List Ent} (h : Asc es) (e : El) : Asc (putX es e) := by
  unfold putX
  split
  · exact h
  · exact putE_asc h
theorem putX_get {es : List Ent} (h : Asc es) (e : El) (k : Bs) : getE (putX es e) k = (getE es k).or (if e.1 = k then some (valF e.2) else none) := by
  unfold putX
  split
  · rename_i hh
    by_cases he : e.1 = k
    · subst he
      unfold hasE at hh
      cases hg : getE es e.1 with
      | none => rw [hg] at hh; cases hh
      | some x => rfl
    · rw [if_neg he]; cases getE es k <;> rfl
  · rename_i hh
    rw [putE_get h]
    by_cases he : e.1 = k
    · subst he
      have hn : getE es e.1 = none := by
        unfold hasE at hh
        cases hg : getE es e.1 with
        | none => rfl
        | some x => rw [hg] at hh; exact absurd rfl hh
      rw [if_pos rfl, if_pos rfl, hn]; rfl
    · rw [if_neg he, if_neg he]; cases getE es k <;> rfl
theorem putsX_asc : ∀ (m : List El) {es : List Ent}, Asc es → Asc (putsX es m)
  | [], _, h => h
  | e :: r, _, h => putsX_asc r (putX_asc h e)
theorem putsX_get : ∀ (m : List El) {es : List Ent}, Asc es → ∀ k, getE (putsX es m) k = (getE es k).or (getE (esR m) k)
  | [], es, _, k => by
    show getE es k = (getE es k).or none
    cases getE es k <;> rfl
  | e :: r, es, h, k => by
    have ih := putsX_get r (putX_asc h e) k
    show getE (putsX (putX es e) r) k = (getE es k).or (getE (entR e :: esR r) k)
    rw [ih, putX_get h]
    show _ = (getE es k).or (if e.1 = k then some (valF e.2) else getE (esR r) k)
    cases getE es k with
    | some x => rfl
    | none =>
      by_cases he : e.1 = k
      · rw [if_pos he, if_pos he]; rfl
      · rw [if_neg he, if_neg he]; rfl
theorem putsX_uni {l m : List El} (hA : Asc (esR l)) (hB : Asc (esR m)) : putsX (esR l) m = uniE (esR l) (esR m) :=
  asc_ext (putsX_asc m hA) (uniE_asc hA) (fun k => by rw [putsX_get m hA, uniE_get hA hB])
theorem putX_len {es : List Ent} (h : Asc es) (e : El) : (putX es e).length ≤ es.length + 1 := by
  unfold putX
  split
  · omega
  · rw [putE_length h]; split <;> omega
theorem putsX_len : ∀ (m : List El) {es : List Ent}, Asc es → (putsX es m).length ≤ es.length + m.length
  | [], _, _ => Nat.le_refl _
  | e :: r, es, h => by
    have h1 := putsX_len r (putX_asc h e)
    have h2 := putX_len h e
    show (putsX (putX es e) r).length ≤ _
    rw [List.length_cons]
    omega
theorem putsX_succ (es : List Ent) (m : List El) (i : Nat) (h : i < m.length) : putsX es (m.take (i + 1)) = putX (putsX es (m.take i)) (m.getD i zeroE) := by
  unfold putsX
  rw [List.take_succ_eq_append_getElem h, List.foldl_append, List.getD_eq_getElem?_getD, List.getElem?_eq_getElem h]
  rfl
/-- A set's row is appended to another. -/
theorem append_els (w : World) {v : Value} {l : List El} (hv : w.ownsRow 0 69 19 v l.length (cellsR l)) {x : Value} {m : List El} (hx : w.ownsRow 0 69 19 x m.length (cellsR m)) (hlen : l.length + m.length ≤ 1000000) (ty : TypeId) :
    ∃ v' w', (Builtin.append_ #[31, 31] ty #[v, x]).run Tryz.prog w = .ok v' w' ∧ w'.ownsRow 0 69 19 v' (l ++ m).length (cellsR (l ++ m)) ∧ w.grownBy w' v.ownBlock ∧ (v'.ownBlock = v.ownBlock ∨ v'.ownBlock = some w.heap.size) := by
  obtain ⟨i0, hi, hz0, hz1, hz2⟩ := info_parts infoE
  rcases hx.2 with ⟨rfl, h0⟩ | ⟨g, cap, cur, rfl, _, hg, hcap, _, hsz, htk⟩
  · have hm : m = [] := List.length_eq_zero_iff.1 h0
    subst hm
    refine ⟨v, w, run_append_owned_none w 0 31 ty 69 i0 19 Tryz.underlying31 hi v l.length (cellsR l) hv, ?_, ⟨rfl, rfl, rfl, Nat.le_refl _, fun _ _ _ => rfl⟩, .inl rfl⟩
    rw [List.append_nil]; exact hv
  · obtain ⟨v', w', hr, ho, hgr, _, hb⟩ := run_append_own_at w 0 31 ty 69 i0 _ 19 168 Tryz.underlying31 hi hz0 hz1 hz2 rfl (by decide) v l.length (cellsR l) hv ⟨g, 0, none⟩ m.length cap (cellsR m) (cellsR_length m) (fun j u hu => by
        have e : Addr.add ⟨g, 0, none⟩ j = ⟨g, j, none⟩ := by unfold Addr.add; split <;> simp_all
        rw [e, cell_of_row _ _ _ _ _ _ hg, ← Array.getElem?_toList]
        have hj : j < (cellsR m).length := (List.getElem?_eq_some_iff.1 hu).1
        rw [← htk, List.getElem?_take] at hu
        split at hu
        · exact hu
        · cases hu) (cellsR_one m) (by unfold maxLen; omega) (by omega) (Nat.zero_le _)
    refine ⟨v', w', hr, ?_, hgr, hb⟩
    rw [List.length_append, cellsR_append]
    exact ho
theorem el_range {w : World} {g : Nat} {l : List El} (h : ElAt w g l) {i : Nat} (hi : i < l.length) : w.rangeAt g (i * 19) (elC (l.getD i zeroE)).toList := fun j v hv => h i hi j v (by rw [← Array.getElem?_toList]; exact hv)
set_option maxRecDepth 100000 in
set_option maxHeartbeats 4000000 in
theorem rUnion_calls (p q : Nat) (v x : Value) (l m : List El) (w : World) (hS : RSetAt w p v l) (hT : RSetAt w q x m) (hA : Asc (esR l)) (hB : Asc (esR m)) (hl : l.length ≤ 4000) (hm : m.length ≤ 4000) :
    Calls Tryz.prog 11 #[.pointer (some ⟨p, 0, none⟩), .pointer (some ⟨q, 0, none⟩)] w fun e W' => e = .returned (.int .i64 (uniErr (esR l) (esR m))) ∧ ∃ v' l', RSetAt W' p v' l' ∧ esR l' = uniS (esR l) (esR m) ∧ Turned w v v' ∧ KeptR w W' p v := by
  have hlen := uniE_length (t := esR m) hA
  have HU := Lib.hid (putsX_uni hA hB)
  have HA := Lib.hid hA
  have hal : Below w.heap.size w (w.alloc (.cells #[] 69)) := (Below.refl _ w).alloc (Nat.le_refl _) _
  have hSa := hS.below hal
  have hrow0 : (w.alloc (.cells #[] 69)).ownsRow 0 69 19 (.slice (some ⟨w.heap.size, 0, none⟩) 0 0) ([] : List El).length (cellsR []) :=
    ⟨rfl, .inr ⟨w.heap.size, 0, #[], rfl, Nat.zero_le _, heap_new w _, Nat.le_refl _, Nat.zero_le _, rfl, rfl⟩⟩
  obtain ⟨v0, w2, happ, hrow2, hgr2, hown2⟩ := append_els _ hrow0 hSa.2.1 (by rw [List.length_nil]; omega) 31
  rw [List.nil_append] at hrow2
  have hg0 : ∃ g, v0.ownBlock = some g ∧ w.heap.size ≤ g := by
    rcases hown2 with h | h
    · exact ⟨_, h, Nat.le_refl _⟩
    · exact ⟨_, h, hal.size⟩
  have hb2 : Below w.heap.size w w2 := hal.grown hgr2 hal.size (fun j e => by cases e; exact Nat.le_refl _)
  obtain ⟨w3, hw3⟩ : ∃ w3, w2.alloc (.cells #[v0] 33) = w3 := ⟨_, rfl⟩
  have hb3 : Below w.heap.size w w3 := by rw [← hw3]; exact hb2.alloc hb2.size _
  have hq3 : RSetAt w3 w2.heap.size v0 l := by
    rw [← hw3]
    refine ⟨heap_new w2 _, World.ownsRow.alloc hrow2 _, fun e => ?_⟩
    have := (World.ownsRow.lt hrow2 _ e).2
    omega
  have hqu : w.heap.size ≤ w2.heap.size := hb2.size
  obtain ⟨A0, cap0, rfl, hcap0, -⟩ := hq3.reads
  obtain ⟨A, cap, rfl, hcap, hRd⟩ := hS.readsR
  obtain ⟨A2, cap2, rfl, hcap2, hRd2⟩ := hT.readsR
  have HR := Lib.hid hRd
  have HR2 := Lib.hid hRd2
  have S := Lib.hid hS
  have T := Lib.hid hT
  have B3 := Lib.hid hb3
  have Q3 := Lib.hid hq3
  have G3 := Lib.hid hg0
  have cs := hSa.cell
  clear hS hT hA hB hSa hrow0 hrow2 hgr2 hown2 hg0 hb2 hb3 hq3 hRd hRd2 hal
  go_enter Tryz.func11, Tryz.ntmps11
  go_upto_region 3 with (at_builtin; refine wpList_append_run rfl _ _ _ rfl _ _ rfl rfl happ ?_)
  go_loopw [6] (fun iv wr => ∃ (i : Nat) (v1 : Value) (l1 : List El), i ≤ m.length ∧ iv = .int .i64 i ∧ Hid (RSetAt wr w2.heap.size v1 l1) ∧ Hid (esR l1 = putsX (esR l) (m.take i)) ∧ Hid (∃ g, v1.ownBlock = some g ∧ w.heap.size ≤ g) ∧ Hid (Below w.heap.size w wr)) (fun iv _ => m.length - (intOf iv).toNat)
  case atStart => exact ⟨0, _, l, by omega, rfl, Q3, Lib.hid rfl, G3, B3⟩
  case round =>
    clear Q3 B3 G3
    obtain ⟨i, v1, l1, hi, rfl, Q, E, G, B⟩ := hrel
    have i0 : (0 : Int) ≤ (i : Int) := by omega
    have hl1 : l1.length ≤ 8000 := by
      have h := congrArg List.length E.out
      rw [esR_length] at h
      have h2 := putsX_len (m.take i) HA.out
      rw [esR_length, List.length_take] at h2
      omega
    have hA1 := Lib.hid (show Asc (esR l1) by rw [E.out]; exact putsX_asc _ HA.out)
    obtain ⟨ct, hL2⟩ := HR2.out wr B.out
    by_cases hlt : i < m.length
    · have i1 : (i : Int) < (m.length : Int) := by omega
      rcases hL2 with hz | ⟨g, rfl, hat⟩
      · rw [hz] at hlt; exact absurd hlt (by simp)
      have hrg := el_range hat hlt
      have Hs := Lib.hid (putsX_succ (esR l) m i hlt)
      clear hat
      generalize m.getD i zeroE = e1 at *
      have HP := Lib.hid (rput_calls w2.heap.size v1 l1 e1 wr Q.out hA1.out (by omega))
      go_wp2_with (refine wpList_load_mid rfl 69 _ rfl g (i * 19) rfl (elC e1).toList _ hrg Tryz.underlying69 rfl (hiE e1) ?_)
      refine HP.out.mono ?_
      rintro e W3 ⟨rfl, v2, l2, hQ2, hE2, hT, hK⟩
      have B9 := Lib.hid (B.out.trans (hK.below B.out.size hqu (fun g hg => by
        obtain ⟨g2, h, h2⟩ := G.out
        rw [h] at hg
        have := Option.some.inj hg
        omega)))
      have G9 := Lib.hid (show ∃ g, v2.ownBlock = some g ∧ w.heap.size ≤ g by
        rcases hT with h | ⟨g2, h, h2⟩
        · obtain ⟨g3, h3, h4⟩ := G.out
          exact ⟨g3, h.trans h3, h4⟩
        · exact ⟨g2, h, Nat.le_trans B.out.size h2⟩)
      have Q9 := Lib.hid hQ2
      have E9 := Lib.hid (show esR l2 = putsX (esR l) (m.take (i + 1)) by rw [hE2, E.out]; exact Hs.out.symm)
      clear hQ2 hE2 hT hK HP hrg ct
      go_wp2_with fail
      go_roundw
      case rel => exact ⟨i + 1, v2, l2, by omega, by go_num, Q9, E9, G9, B9⟩
      case measure => simp [intOf]; omega
    · obtain rfl : i = m.length := by omega
      have i1 : (m.length : Int) ≤ (m.length : Int) := by omega
      have hE2 := E.out
      rw [List.take_length, HU.out] at hE2
      have hLn : l1.length = (esR l).length + (missK (esR l) (idsE (esR m))).length := by
        rw [← esR_length l1, hE2]
        exact hlen
      have SB := Lib.hid (S.out.below B.out)
      have cp := SB.out.cell
      have zp := SB.out.frozen
      have cu := Q.out.cell
      obtain ⟨A1, cap1, rfl, hcap1, -⟩ := Q.out.reads
      have hpw := S.out.ltp
      have HE2 := Lib.hid hE2
      have HLn := Lib.hid hLn
      clear hL2 hE2 hLn hlen E
      by_cases hbig : 4000 < l1.length
      · have k1 : (4000 : Int) < (l1.length : Int) := by omega
        have he : uniErr (esR l) (esR m) = 60 := by unfold uniErr; rw [if_neg (by rw [← HLn.out]; omega)]
        have hu : uniS (esR l) (esR m) = esR l := by unfold uniS; rw [if_neg (by rw [← HLn.out]; omega)]
        have HE := Lib.hid (And.intro he hu)
        clear he hu
        go_wp2_with fail
        go_ret
        exact ⟨by rw [HE.out.1]; rfl, _, l, SB.out, HE.out.2.symm, .inl rfl, KeptR.of B.out p _⟩
      · have k1 : ¬ (4000 : Int) < (l1.length : Int) := by omega
        have he : uniErr (esR l) (esR m) = 0 := by unfold uniErr; rw [if_pos (by rw [← HLn.out]; omega)]
        have hu : uniS (esR l) (esR m) = uniE (esR l) (esR m) := by unfold uniS; rw [if_pos (by rw [← HLn.out]; omega)]
        have HE := Lib.hid (And.intro he hu)
        have HF := Lib.hid (rset_store SB.out.1 Q.out.2.1 (fun e => by
          obtain ⟨g2, h, h2⟩ := G.out
          rw [h] at e
          have := Option.some.inj e
          omega))
        have HK := Lib.hid (kept_other (KeptR.of B.out p (.slice A l.length cap)) (grown_setCellP wr ⟨p, 0, none⟩ (.slice A1 l1.length cap1)) (.inl rfl))
        clear he hu
        go_wp2_with fail
        go_ret
        exact ⟨by rw [HE.out.1]; rfl, _, l1, HF.out, HE2.out.trans HE.out.2.symm, .inr G.out, HK.out⟩
end Go.Proofs.YtnndnjnpkjpkpaaGreatDoor
namespace Go.Proofs.YtnndnjnpkjpkpaaGreatDoor
open Go Go.RowKit Go.Maps
/-- What has stayed since w0: all but the blocks in D. -/
def Stat (w0 w : World) (D : Nat → Prop) : Prop := w.os = w0.os ∧ w.tape = w0.tape ∧ w.output = w0.output ∧ w0.heap.size ≤ w.heap.size ∧ ∀ k, k < w0.heap.size → ¬ D k → w.heap[k]? = w0.heap[k]?
theorem Stat.refl (w : World) (D : Nat → Prop) : Stat w w D := ⟨rfl, rfl, rfl, Nat.le_refl _, fun _ _ _ => rfl⟩
theorem Stat.below {w0 w w' : World} {D : Nat → Prop} (h : Stat w0 w D) (hb : Below w.heap.size w w') : Stat w0 w' D :=
  ⟨hb.os.trans h.1, hb.tape.trans h.2.1, hb.output.trans h.2.2.1, Nat.le_trans h.2.2.2.1 hb.size, fun k hk hd => (hb.block k (Nat.lt_of_lt_of_le hk h.2.2.2.1)).trans (h.2.2.2.2 k hk hd)⟩
theorem Stat.grown {w0 w w' : World} {D : Nat → Prop} {b : Nat} (h : Stat w0 w D) (hg : w.grownBy w' (some b)) (hb : D b ∨ w0.heap.size ≤ b) : Stat w0 w' D :=
  ⟨hg.os.trans h.1, hg.tape.trans h.2.1, hg.output.trans h.2.2.1, Nat.le_trans h.2.2.2.1 hg.size, fun k hk hd => (hg.block k (Nat.lt_of_lt_of_le hk h.2.2.2.1) (fun e => by
    have e2 := Option.some.inj e
    rcases hb with h1 | h1
    · exact hd (by rw [e2]; exact h1)
    · omega)).trans (h.2.2.2.2 k hk hd)⟩
theorem Stat.kept {w0 w w' : World} {D : Nat → Prop} {q : Nat} {v : Value} (h : Stat w0 w D) (hK : KeptR w w' q v) (hq : D q) (hv : ∀ g, v.ownBlock = some g → w0.heap.size ≤ g) : Stat w0 w' D :=
  ⟨hK.1.trans h.1, hK.2.1.trans h.2.1, hK.2.2.1.trans h.2.2.1, Nat.le_trans h.2.2.2.1 hK.2.2.2.1, fun k hk hd => (hK.2.2.2.2 k (Nat.lt_of_lt_of_le hk h.2.2.2.1) (fun e => hd (by rw [e]; exact hq)) (fun e => by have := hv k e; omega)).trans (h.2.2.2.2 k hk hd)⟩
theorem Stat.toBelow {w0 w : World} {D : Nat → Prop} (h : Stat w0 w D) {base : Nat} (hb : base ≤ w0.heap.size) (hD : ∀ k, D k → base ≤ k) : Below base w0 w :=
  ⟨h.1, h.2.1, h.2.2.1, h.2.2.2.1, fun k hk => h.2.2.2.2 k (by omega) (fun hd => by have := hD k hd; omega)⟩
theorem Stat.cell {w0 w : World} {D : Nat → Prop} (h : Stat w0 w D) {a : Addr} {v : Value} (hc : w0.cell? a = some v) (hd : ¬ D a.block) : w.cell? a = some v := by
  rw [World.cell?_of_block (h.2.2.2.2 a.block (lt_of_cell hc) hd)]; exact hc
/-- The six blocks: two sets of the program's (their boxes and maps), two of the reference's. -/
def Six (n P B Q P' B' Q' : Nat) : Prop := (P < n ∧ B < n ∧ Q < n ∧ P' < n ∧ B' < n ∧ Q' < n) ∧ (P ≠ B ∧ P ≠ Q ∧ P ≠ P' ∧ P ≠ B' ∧ P ≠ Q') ∧ (B ≠ Q ∧ B ≠ P' ∧ B ≠ B' ∧ B ≠ Q') ∧ (Q ≠ P' ∧ Q ≠ B' ∧ Q ≠ Q') ∧ (P' ≠ B' ∧ P' ≠ Q') ∧ B' ≠ Q'
theorem Six.swap {n P B Q P' B' Q' : Nat} (h : Six n P B Q P' B' Q') : Six n P' B' Q' P B Q := by
  obtain ⟨⟨a1, a2, a3, a4, a5, a6⟩, ⟨b1, b2, b3, b4, b5⟩, ⟨c1, c2, c3, c4⟩, ⟨d1, d2, d3⟩, ⟨e1, e2⟩, f⟩ := h
  exact ⟨⟨a4, a5, a6, a1, a2, a3⟩, ⟨e1, e2, b3.symm, c2.symm, d1.symm⟩, ⟨f, b4.symm, c3.symm, d2.symm⟩, ⟨b5.symm, c4.symm, d3.symm⟩, ⟨b1, b2⟩, c1⟩
def Four (B Q B' Q' : Nat) (k : Nat) : Prop := k = B ∨ k = Q ∨ k = B' ∨ k = Q'
theorem Four.swap {B Q B' Q' : Nat} : Four B Q B' Q' = Four B' Q' B Q := by
  funext k
  unfold Four
  exact propext ⟨fun h => by rcases h with h | h | h | h <;> simp [h], fun h => by rcases h with h | h | h | h <;> simp [h]⟩
def NewRow (w0 : World) (v : Value) : Prop := ∀ g, v.ownBlock = some g → w0.heap.size ≤ g
theorem NewRow.turned {w0 w : World} {v v' : Value} (h : NewRow w0 v) (ht : Turned w v v') (hw : w0.heap.size ≤ w.heap.size) : NewRow w0 v' := fun g hg => by
  rcases ht with h1 | ⟨g2, h1, h2⟩
  · rw [h1] at hg; exact h g hg
  · rw [h1] at hg; have := Option.some.inj hg; omega
/-- The four sets: the program's hold s and s', the reference's t and t'. -/
def Quad (w0 w : World) (P B Q P' B' Q' : Nat) (s t s' t' : List Ent) : Prop :=
  ∃ v l v' l', SetAt w P B s ∧ RSetAt w Q v l ∧ esR l = t ∧ SetAt w P' B' s' ∧ RSetAt w Q' v' l' ∧ esR l' = t' ∧ NewRow w0 v ∧ NewRow w0 v' ∧ (∀ g, v.ownBlock = some g → v'.ownBlock ≠ some g) ∧ Stat w0 w (Four B Q B' Q')
theorem Quad.swap {w0 w : World} {P B Q P' B' Q' : Nat} {s t s' t' : List Ent} (h : Quad w0 w P B Q P' B' Q' s t s' t') : Quad w0 w P' B' Q' P B Q s' t' s t := by
  obtain ⟨v, l, v', l', h1, h2, h3, h4, h5, h6, h7, h8, h9, h10⟩ := h
  exact ⟨v', l', v, l, h4, h5, h6, h1, h2, h3, h8, h7, fun g e e2 => h9 g e2 e, by rw [Four.swap]; exact h10⟩
theorem Quad.below {w0 w w' : World} {P B Q P' B' Q' : Nat} {s t s' t' : List Ent} (h : Quad w0 w P B Q P' B' Q' s t s' t') (hb : Below w.heap.size w w') : Quad w0 w' P B Q P' B' Q' s t s' t' := by
  obtain ⟨v, l, v', l', h1, h2, h3, h4, h5, h6, h7, h8, h9, h10⟩ := h
  exact ⟨v, l, v', l', h1.below hb, h2.below hb, h3, h4.below hb, h5.below hb, h6, h7, h8, h9, h10.below hb⟩
/-- The program's set has changed. -/
theorem Quad.fs {w0 w w' : World} {P B Q P' B' Q' : Nat} {s t s' t' s2 : List Ent} (h : Quad w0 w P B Q P' B' Q' s t s' t') (h6 : Six w0.heap.size P B Q P' B' Q') (hS : SetAt w' P B s2) (hg : w.grownBy w' (some B)) : Quad w0 w' P B Q P' B' Q' s2 t s' t' := by
  obtain ⟨v, l, v', l', _, h2, h3, h4, h5, h6', h7, h8, h9, h10⟩ := h
  obtain ⟨⟨a1, a2, a3, a4, a5, a6⟩, ⟨b1, b2, b3, b4, b5⟩, ⟨c1, c2, c3, c4⟩, ⟨d1, d2, d3⟩, ⟨e1, e2⟩, f⟩ := h6
  refine ⟨v, l, v', l', hS, h2.grown hg (fun e => c1 (Option.some.inj e)) (fun g eg e => ?_), h3, h4.keep hg (fun e => c2 (Option.some.inj e)) (fun e => c3 (Option.some.inj e)), h5.grown hg (fun e => c4 (Option.some.inj e)) (fun g eg e => ?_), h6', h7, h8, h9, h10.grown hg (.inl (.inl rfl))⟩
  · have := h7 g eg; have := Option.some.inj e; omega
  · have := h8 g eg; have := Option.some.inj e; omega
theorem SetAt.heap {w w' : World} {p b : Nat} {es : List Ent} (h : SetAt w p b es) (hp : w'.heap[p]? = w.heap[p]?) (hb : w'.heap[b]? = w.heap[b]?) : SetAt w' p b es := by
  obtain ⟨h1, es', clock, hm, F, hs, hD⟩ := h
  exact ⟨hp.trans h1, es', clock, hb.trans hm, F, hs, hD⟩
/-- The reference's Add beside the program's. -/
theorem quad_rAdd {w0 w : World} {P B Q P' B' Q' : Nat} {s t s' t' : List Ent} (h : Quad w0 w P B Q P' B' Q' s t s' t') (h6 : Six w0.heap.size P B Q P' B' Q') (hA : Asc t) (hn : t.length ≤ 100000) (f : Fa) :
    Calls Tryz.prog 9 #[.pointer (some ⟨Q, 0, none⟩), .agg (factC f.1 f.2)] w fun e W' => e = .returned (.tuple #[.bool (plusB t f), .int .i64 (plusN t f)]) ∧ Quad w0 W' P B Q P' B' Q' s (plusE t f) s' t' := by
  obtain ⟨v, l, v', l', h1, h2, rfl, h4, h5, h6', h7, h8, h9, h10⟩ := h
  obtain ⟨⟨a1, a2, a3, a4, a5, a6⟩, ⟨b1, b2, b3, b4, b5⟩, ⟨c1, c2, c3, c4⟩, ⟨d1, d2, d3⟩, ⟨e1, e2⟩, ff⟩ := h6
  have hsz := h10.2.2.2.1
  refine (rAdd_calls Q v l f w h2 hA (by rw [esR_length] at hn; exact hn)).mono ?_
  rintro e W' ⟨he, v2, l2, k1, k2, k3, k4⟩
  have own : ∀ k, k < w0.heap.size → v.ownBlock ≠ some k := fun k hk e => by have := h7 k e; omega
  have stay : ∀ k, k < w0.heap.size → k ≠ Q → W'.heap[k]? = w.heap[k]? := fun k hk hq => k4.2.2.2.2 k (by omega) hq (own k hk)
  refine ⟨he, v2, l2, v', l', h1.heap (stay P a1 b2) (stay B a2 c1), k1, k2, h4.heap (stay P' a4 d1.symm) (stay B' a5 d2.symm), ?_, h6', h7.turned k3 hsz, h8, ?_, h10.kept k4 (.inr (.inl rfl)) h7⟩
  · refine h5.keep (stay Q' a6 d3.symm) (fun g hg => k4.2.2.2.2 g (h5.ltv hg) (fun e => ?_) (fun e => h9 g e hg))
    have := h8 g hg; omega
  · intro g hg hg2
    rcases k3 with k3 | ⟨g2, k3, k5⟩
    · rw [k3] at hg; exact h9 g hg hg2
    · rw [k3] at hg
      have := Option.some.inj hg
      have := h5.ltv hg2
      omega
theorem quad_rUnion {w0 w : World} {P B Q P' B' Q' : Nat} {s t s' t' : List Ent} (h : Quad w0 w P B Q P' B' Q' s t s' t') (h6 : Six w0.heap.size P B Q P' B' Q') (hA : Asc t) (hB : Asc t') (hn : t.length ≤ 4000) (hm : t'.length ≤ 4000) :
    Calls Tryz.prog 11 #[.pointer (some ⟨Q, 0, none⟩), .pointer (some ⟨Q', 0, none⟩)] w fun e W' => e = .returned (.int .i64 (uniErr t t')) ∧ Quad w0 W' P B Q P' B' Q' s (uniS t t') s' t' := by
  obtain ⟨v, l, v', l', h1, h2, rfl, h4, h5, rfl, h7, h8, h9, h10⟩ := h
  obtain ⟨⟨a1, a2, a3, a4, a5, a6⟩, ⟨b1, b2, b3, b4, b5⟩, ⟨c1, c2, c3, c4⟩, ⟨d1, d2, d3⟩, ⟨e1, e2⟩, ff⟩ := h6
  have hsz := h10.2.2.2.1
  refine (rUnion_calls Q Q' v v' l l' w h2 h5 hA hB (by rw [esR_length] at hn; exact hn) (by rw [esR_length] at hm; exact hm)).mono ?_
  rintro e W' ⟨he, v2, l2, k1, k2, k3, k4⟩
  have own : ∀ k, k < w0.heap.size → v.ownBlock ≠ some k := fun k hk e => by have := h7 k e; omega
  have stay : ∀ k, k < w0.heap.size → k ≠ Q → W'.heap[k]? = w.heap[k]? := fun k hk hq => k4.2.2.2.2 k (by omega) hq (own k hk)
  refine ⟨he, v2, l2, v', l', h1.heap (stay P a1 b2) (stay B a2 c1), k1, k2, h4.heap (stay P' a4 d1.symm) (stay B' a5 d2.symm), ?_, rfl, h7.turned k3 hsz, h8, ?_, h10.kept k4 (.inr (.inl rfl)) h7⟩
  · refine h5.keep (stay Q' a6 d3.symm) (fun g hg => k4.2.2.2.2 g (h5.ltv hg) (fun e => ?_) (fun e => h9 g e hg))
    have := h8 g hg; omega
  · intro g hg hg2
    rcases k3 with k3 | ⟨g2, k3, k5⟩
    · rw [k3] at hg; exact h9 g hg hg2
    · rw [k3] at hg
      have := Option.some.inj hg
      have := h5.ltv hg2
      omega
theorem quad_Add {w0 w : World} {P B Q P' B' Q' : Nat} {s t s' t' : List Ent} (h : Quad w0 w P B Q P' B' Q' s t s' t') (h6 : Six w0.heap.size P B Q P' B' Q') (hK : Konst w) (hG : Good s) (f : Fa) :
    Calls Tryz.prog 8 #[.pointer (some ⟨P, 0, none⟩), .agg (factC f.1 f.2)] w fun e W' => e = .returned (.tuple #[.bool (plusB s f), .int .i64 (plusN s f)]) ∧ Quad w0 W' P B Q P' B' Q' (plusE s f) t s' t' := by
  have h2 := h
  obtain ⟨v, l, v', l', h1, _⟩ := h2
  refine (Add_calls P B s f w hK h1 hG).mono ?_
  rintro e W' ⟨he, k1, k2⟩
  exact ⟨he, h.fs h6 k1 k2⟩
theorem quad_Union {w0 w : World} {P B Q P' B' Q' : Nat} {s t s' t' : List Ent} (h : Quad w0 w P B Q P' B' Q' s t s' t') (h6 : Six w0.heap.size P B Q P' B' Q') (hG : Good s) (hH : Good s') :
    Calls Tryz.prog 10 #[.pointer (some ⟨P, 0, none⟩), .pointer (some ⟨P', 0, none⟩)] w fun e W' => e = .returned (.int .i64 (uniErr s s')) ∧ Quad w0 W' P B Q P' B' Q' (uniS s s') t s' t' := by
  have h2 := h
  obtain ⟨v, l, v', l', h1, _, _, h4, _⟩ := h2
  have c := h6.2.2.1
  refine (Union_calls P B P' B' s s' w h1 h4 hG hH c.2.2.1 c.2.1).mono ?_
  rintro e W' ⟨he, k1, k2⟩
  exact ⟨he, h.fs h6 k1 k2⟩
theorem Quad.set {w0 w : World} {P B Q P' B' Q' : Nat} {s t s' t' : List Ent} (h : Quad w0 w P B Q P' B' Q' s t s' t') : SetAt w P B s := by
  obtain ⟨v, l, v', l', h1, _⟩ := h
  exact h1
theorem Quad.ref {w0 w : World} {P B Q P' B' Q' : Nat} {s t s' t' : List Ent} (h : Quad w0 w P B Q P' B' Q' s t s' t') : ∃ v l, RSetAt w Q v l ∧ esR l = t := by
  obtain ⟨v, l, v', l', _, h2, h3, _⟩ := h
  exact ⟨v, l, h2, h3⟩
theorem Quad.stat {w0 w : World} {P B Q P' B' Q' : Nat} {s t s' t' : List Ent} (h : Quad w0 w P B Q P' B' Q' s t s' t') : Stat w0 w (Four B Q B' Q') := by
  obtain ⟨v, l, v', l', _, _, _, _, _, _, _, _, _, h10⟩ := h
  exact h10
end Go.Proofs.YtnndnjnpkjpkpaaGreatDoor
