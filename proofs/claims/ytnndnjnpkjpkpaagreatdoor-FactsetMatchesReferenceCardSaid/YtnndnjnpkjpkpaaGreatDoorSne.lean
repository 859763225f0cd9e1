/- Snp and Sne -/
import Derived.Test.YtnndnjnpkjpkpaaGreatDoorOf
import Derived.Test.YtnndnjnpkjpkpaaGreatDoorMxp
namespace Go.Proofs.YtnndnjnpkjpkpaaGreatDoor
open Go.RowKit Go.Maps

def pA : Fa := playA 1
def pB : Fa := playA 2
theorem okA1 : okA pA = true := by decide +kernel
theorem okB1 : okA pB = true := by decide +kernel
theorem okZ : okA zeroA = false := by decide +kernel
theorem key_ne : keyF pA ≠ keyF pB := fun h => by
  have := play_inj 1 2 (by omega) (by omega) h
  omega
def eA : List Ent := [(keyF pA, valF pA)]
def eB : List Ent := [(keyF pB, valF pB)]
theorem one_has (f g : Fa) : hasE [(keyF f, valF f)] (keyF g) = decide (keyF f = keyF g) := by
  unfold hasE getE getE
  by_cases h : keyF f = keyF g
  · rw [if_pos h, decide_eq_true h]; rfl
  · rw [if_neg h, decide_eq_false h]; rfl
theorem plus_one (f : Fa) (h : okA f = true) : plusB [] f = true ∧ plusN [] f = 0 ∧ plusE [] f = [(keyF f, valF f)] := by
  unfold plusB plusN plusE
  rw [h]
  refine ⟨rfl, rfl, rfl⟩
theorem plus_again : plusB eA pA = false ∧ plusN eA pA = 0 ∧ plusE eA pA = eA := by
  have h1 : hasE eA (keyF pA) = true := by
    have := one_has pA pA
    rw [decide_eq_true rfl] at this
    exact this
  unfold plusB plusN plusE
  rw [okA1, h1]
  refine ⟨rfl, rfl, rfl⟩
theorem plus_bad (es : List Ent) : plusB es zeroA = false ∧ plusN es zeroA = 60 ∧ plusE es zeroA = es := by
  unfold plusB plusN plusE
  rw [okZ]
  refine ⟨rfl, rfl, rfl⟩
theorem good_one (f : Fa) (h : okA f = true) : Good [(keyF f, valF f)] := ⟨List.pairwise_singleton _ _, fun p hp => ⟨f, h, List.mem_singleton.1 hp⟩, by simp⟩
def eU : List Ent := uniE eA eB
set_option maxRecDepth 100000 in
theorem miss_one : missK eA (idsE eB) = [keyF pB] := by
  have h1 : hasE eA (keyF pB) = false := by
    have := one_has pA pB
    rw [decide_eq_false key_ne] at this
    exact this
  unfold missK missE
  show ((if hasE eA (keyF pB) = true then [] else putE (keyF pB) (.bool true) []) : List Ent).map (·.1) = [keyF pB]
  rw [h1]
  generalize keyF pB = k
  rfl
set_option maxRecDepth 100000 in
theorem uni_err : uniErr eA eB = 0 := by unfold uniErr; rw [miss_one]; rfl
set_option maxRecDepth 100000 in
theorem uni_set : uniS eA eB = eU := by unfold uniS; rw [miss_one]; rfl
theorem good_U : Good eU := by
  have := good_uni (good_one pA okA1) (good_one pB okB1)
  rw [show uniS [(keyF pA, valF pA)] [(keyF pB, valF pB)] = eU from uni_set] at this
  exact this
theorem U_length : eU.length = 2 := by
  have := uniE_length (s := eA) (t := eB) (good_one pA okA1).1
  unfold eU
  rw [this]
  have h := miss_one
  unfold idsE at h
  rw [h]
  rfl
theorem U_mem {p : Ent} (h : p ∈ eU) : p = (keyF pA, valF pA) ∨ p = (keyF pB, valF pB) := by
  have h1 := mem_getE good_U.1 (k := p.1) (x := p.2) h
  unfold eU at h1
  have gA : Asc eA := (good_one pA okA1).1
  have gB : Asc eB := (good_one pB okB1).1
  rw [uniE_get gA gB] at h1
  cases hg : getE eA p.1 with
  | some v =>
    rw [hg] at h1
    have := getE_mem hg
    have e1 : v = p.2 := by simpa using h1
    rw [e1] at this
    exact .inl (List.mem_singleton.1 this)
  | none =>
    rw [hg] at h1
    have := getE_mem (es := eB) (k := p.1) (x := p.2) (by simpa using h1)
    exact .inr (List.mem_singleton.1 this)
/-- The two elements, with the first one's fact. -/
theorem U_two : ∃ (x y : Ent) (v : Nat → Int) (t : ByteArray), eU = [x, y] ∧ x.2 = .agg (factC v t) ∧ v 0 = 1 ∧ t.size ≤ 65536 := by
  match h : eU, U_length with
  | [x, y], _ =>
    have hx : x ∈ eU := by rw [h]; exact List.mem_cons_self ..
    rcases U_mem hx with e | e
    · exact ⟨x, y, pA.1, pA.2, rfl, by rw [e], rfl, by decide⟩
    · exact ⟨x, y, pB.1, pB.2, rfl, by rw [e], rfl, by decide⟩
theorem short_not {es : List Ent} (hG : Good es) {k : List UInt8} (h : k.length ≠ 32) : hasE es k = false := by
  cases hh : hasE es k with
  | false => rfl
  | true =>
    obtain ⟨p, hp, e⟩ := List.mem_map.1 ((mem_keys hG.1 k).2 hh)
    exact absurd (by rw [← e]; exact good_key hG hp) h
theorem miss_x {es : List Ent} (hG : Good es) : missK es [[120]] ≠ [] := by
  intro h
  have := miss_nil h [120] (List.mem_singleton.2 rfl)
  rw [short_not hG (by decide)] at this
  cases this
set_option maxRecDepth 100000 in
theorem miss_y {x y : Ent} (h : eU = [x, y]) : missK eU [y.1] = [] := by
  have hh : hasE eU y.1 = true := (mem_keys good_U.1 y.1).1 (by rw [h]; simp)
  unfold missK missE
  show ((if hasE eU y.1 = true then [] else putE y.1 (.bool true) []) : List Ent).map (·.1) = []
  rw [hh]
  generalize y.1 = k
  rfl
theorem part_y (es : List Ent) (k : List UInt8) : (partE es [k]).length = 1 := rfl
set_option maxRecDepth 100000 in
theorem miss_four {x y : Ent} (h : eU = [x, y]) : missK eU [[98], x.1, [97], [98]] = [[97], [98]] := by
  have hx : hasE eU x.1 = true := (mem_keys good_U.1 x.1).1 (by rw [h]; simp)
  have hb : hasE eU [98] = false := short_not good_U (by decide)
  have ha : hasE eU [97] = false := short_not good_U (by decide)
  unfold missK missE
  simp only [List.foldl_cons, List.foldl_nil, hx, hb, ha, if_true, Bool.false_eq_true, if_false]
  decide
end Go.Proofs.YtnndnjnpkjpkpaaGreatDoor
namespace Go.Proofs.YtnndnjnpkjpkpaaGreatDoor
open Go.RowKit Go.Maps

theorem addA1 (p b : Nat) (w : World) (hK : Konst w) (hS : SetAt w p b []) :
    Calls Tryz.prog 8 #[.pointer (some ⟨p, 0, none⟩), .agg (factC (playV 1) ⟨#[]⟩)] w fun e W' => e = .returned (.tuple #[.bool true, .int .i64 0]) ∧ SetAt W' p b eA ∧ w.grownBy W' (some b) := by
  have h := Add_calls p b [] pA w hK hS good_nil
  rw [(plus_one pA okA1).1, (plus_one pA okA1).2.1, (plus_one pA okA1).2.2] at h
  exact h
theorem addB1 (p b : Nat) (w : World) (hK : Konst w) (hS : SetAt w p b []) :
    Calls Tryz.prog 8 #[.pointer (some ⟨p, 0, none⟩), .agg (factC (playV 2) ⟨#[]⟩)] w fun e W' => e = .returned (.tuple #[.bool true, .int .i64 0]) ∧ SetAt W' p b eB ∧ w.grownBy W' (some b) := by
  have h := Add_calls p b [] pB w hK hS good_nil
  rw [(plus_one pB okB1).1, (plus_one pB okB1).2.1, (plus_one pB okB1).2.2] at h
  exact h
theorem addA2 (p b : Nat) (w : World) (hK : Konst w) (hS : SetAt w p b eA) :
    Calls Tryz.prog 8 #[.pointer (some ⟨p, 0, none⟩), .agg (factC (playV 1) ⟨#[]⟩)] w fun e W' => e = .returned (.tuple #[.bool false, .int .i64 0]) ∧ SetAt W' p b eA ∧ w.grownBy W' (some b) := by
  have h := Add_calls p b eA pA w hK hS (good_one pA okA1)
  rw [plus_again.1, plus_again.2.1, plus_again.2.2] at h
  exact h
theorem addZ (p b : Nat) (w : World) (hK : Konst w) (hS : SetAt w p b eA) :
    Calls Tryz.prog 8 #[.pointer (some ⟨p, 0, none⟩), .agg (factC (fun _ => 0) ⟨#[]⟩)] w fun e W' => e = .returned (.tuple #[.bool false, .int .i64 60]) ∧ SetAt W' p b eA ∧ w.grownBy W' (some b) := by
  have h := Add_calls p b eA zeroA w hK hS (good_one pA okA1)
  rw [(plus_bad eA).1, (plus_bad eA).2.1, (plus_bad eA).2.2] at h
  exact h
theorem uniU (p b r d : Nat) (w : World) (hS : SetAt w p b eA) (hT : SetAt w r d eB) (hbd : b ≠ d) (hbr : b ≠ r) :
    Calls Tryz.prog 10 #[.pointer (some ⟨p, 0, none⟩), .pointer (some ⟨r, 0, none⟩)] w fun e W' => e = .returned (.int .i64 0) ∧ SetAt W' p b eU ∧ w.grownBy W' (some b) := by
  have h := Union_calls p b r d eA eB w hS hT (good_one pA okA1) (good_one pB okB1) hbd hbr
  rw [uni_err, uni_set] at h
  exact h
theorem strs_at {w : World} {g o : Nat} {l : List Bs} (h : Strs w (some ⟨g, o, none⟩) l) (hl : l ≠ []) : StrsAt w g o l := by
  rcases h with h | ⟨b, o', e, h⟩
  · exact absurd h hl
  · cases e; exact h
theorem strs_four (w : World) (k : List UInt8) : Strs (w.alloc (.cells #[.string ⟨#[98]⟩, .string ⟨k.toArray⟩, .string ⟨#[97]⟩, .string ⟨#[98]⟩] 9)) (some ⟨w.heap.size, 0, none⟩) [[98], k, [97], [98]] := .inr ⟨_, 0, rfl, fun i hi => by
  have hi4 : i = 0 ∨ i = 1 ∨ i = 2 ∨ i = 3 := by simp only [List.length_cons, List.length_nil] at hi; omega
  rw [cell_of_row _ _ _ _ _ _ (heap_new w _)]
  rcases hi4 with rfl | rfl | rfl | rfl <;> rfl⟩
theorem strs_two (w : World) : Strs (w.alloc (.cells #[.string ⟨#[97]⟩, .string ⟨#[98]⟩] 9)) (some ⟨w.heap.size, 0, none⟩) [[97], [98]] := .inr ⟨_, 0, rfl, fun i hi => by
  have hi4 : i = 0 ∨ i = 1 := by simp only [List.length_cons, List.length_nil] at hi; omega
  rw [cell_of_row _ _ _ _ _ _ (heap_new w _)]
  rcases hi4 with rfl | rfl <;> rfl⟩
theorem four_short {x y : Ent} (hxy : eU = [x, y]) : ∀ z ∈ [[98], x.1, [97], [98]], z.length ≤ 281474976710656 := by
  have hl : x.1.length = 32 := good_key good_U (by rw [hxy]; exact List.mem_cons_self ..)
  intro z hz
  simp only [List.mem_cons, List.not_mem_nil, or_false] at hz
  rcases hz with rfl | rfl | rfl | rfl
  · decide
  · rw [hl]; decide
  · decide
  · decide
theorem two_short {x y : Ent} (hxy : eU = [x, y]) : ∀ z ∈ [x.1, y.1], z.length ≤ 1000000000 := by
  have hl : x.1.length = 32 := good_key good_U (by rw [hxy]; exact List.mem_cons_self ..)
  have hm : y.1.length = 32 := good_key good_U (by rw [hxy]; simp)
  intro z hz
  simp only [List.mem_cons, List.not_mem_nil, or_false] at hz
  rcases hz with rfl | rfl
  · rw [hl]; decide
  · rw [hm]; decide
theorem cell_keep {w w' : World} {a : Addr} {v : Value} (h : w.cell? a = some v) (hb : Below w.heap.size w w') : w'.cell? a = some v :=
  (hb.cell (lt_of_cell h)).trans h
theorem getX {x y : Ent} {v : Nat → Int} {t : ByteArray} (hxy : eU = [x, y]) (hx2 : x.2 = .agg (factC v t)) (ht : t.size ≤ 65536) (p b : Nat) (w : World) (X : ByteArray) (hX : (⟨x.1.toArray⟩ : ByteArray) = X) (hS : SetAt w p b eU) :
    Calls Tryz.prog 25 #[.pointer (some ⟨p, 0, none⟩), .string X] w fun e W' => e = .returned (.tuple #[.agg (factC v t), .bool true]) ∧ Below w.heap.size w W' := by
  subst hX
  have hm : x ∈ eU := by rw [hxy]; exact List.mem_cons_self ..
  have hl : x.1.length = 32 := good_key good_U hm
  have hd : (⟨x.1.toArray⟩ : ByteArray).data.toList = x.1 := by simp
  have hg : getE eU x.1 = some x.2 := mem_getE good_U.1 hm
  have hlk : lookE eU x.1 = .agg (factC v t) := by unfold lookE; rw [hg, hx2]; rfl
  have hh : hasE eU x.1 = true := by unfold hasE; rw [hg]; rfl
  refine Get_some p b eU ⟨x.1.toArray⟩ w v t hS good_U.2.1 (by show x.1.length ≤ maxLen; rw [hl]; decide) ?_ ?_ (by omega)
  · rw [hd]; exact hh
  · rw [hd, hlk]
theorem partY {x y : Ent} (hxy : eU = [x, y]) (p b : Nat) (w : World) (gl c : Nat) (hc : 1 ≤ c) (hS : SetAt w p b eU) (hL : StrsAt w gl 0 [x.1, y.1]) :
    Calls Tryz.prog 13 #[.pointer (some ⟨p, 0, none⟩), .slice (some ⟨gl, 1, none⟩) 1 c] w fun e W' => ∃ p' b', e = .returned (.tuple #[.pointer (some ⟨p', 0, none⟩), .bool true]) ∧ SetAt W' p' b' (partE eU [y.1]) ∧ w.heap.size ≤ p' ∧ w.heap.size ≤ b' ∧ Below w.heap.size w W' := by
  have hm : y ∈ eU := by rw [hxy]; simp
  have hl : y.1.length = 32 := good_key good_U hm
  have hs : Strs w (some ⟨gl, 1, none⟩) [y.1] := .inr ⟨gl, 1, rfl, fun i hi => by
    have h0 : i = 0 := by simpa using hi
    subst h0
    exact hL 1 (by simp)⟩
  exact Part_has p b eU [y.1] (some ⟨gl, 1, none⟩) c w hS good_U hs (by simp) (by simpa using hc) (fun z hz => by rw [List.mem_singleton.1 hz, hl]; decide) (miss_y hxy)
set_option maxRecDepth 100000 in
set_option maxHeartbeats 4000000 in
theorem sane_calls (w : World) (hK : Konst w) : Calls Tryz.prog 4 #[] w fun e W' => e = .returned (.bool true) ∧ Below w.heap.size w W' := by
  obtain ⟨x, y, v, t, hxy, hx2, hv0, ht⟩ := U_two
  have HK := Lib.hid hK
  have HP1 := Lib.hid (fun W => play_calls 1 W (by omega) (by omega))
  have HP2 := Lib.hid (fun W => play_calls 2 W (by omega) (by omega))
  have HA1 := Lib.hid addA1
  have HA2 := Lib.hid addA2
  have HAZ := Lib.hid addZ
  have HB1 := Lib.hid addB1
  clear hK
  generalize factC (playV 1) ⟨#[]⟩ = c1 at *
  generalize factC (playV 2) ⟨#[]⟩ = c2 at *
  go_enter Tryz.func4, Tryz.ntmps4
  go_wp2_with fail
  refine (New_calls w).mono ?_
  rintro e W1 ⟨p, b, rfl, hS, hp, hb, b1⟩
  have S := Lib.hid hS
  have B := Lib.hid b1
  clear hS b1
  go_wp2_with fail
  refine (New_calls W1).mono ?_
  rintro e W2 ⟨r, d, rfl, hT, hr, hd, b2⟩
  have hbl := S.out.ltb
  have hpl := S.out.ltp
  have hz1 := B.out.size
  replace S := Lib.hid (S.out.below b2)
  have T := Lib.hid hT
  replace B := Lib.hid (B.out.trans (b2.mono B.out.size))
  have hbd : b ≠ d := by omega
  have hbr : b ≠ r := by omega
  have hdb : d ≠ b := by omega
  have hdp : d ≠ p := by omega
  have hwd : w.heap.size ≤ d := by omega
  clear hT b2
  go_wp2_with fail
  refine (HP1.out _).mono ?_
  rintro e W3 ⟨rfl, b3⟩
  replace S := Lib.hid (S.out.below b3)
  replace T := Lib.hid (T.out.below b3)
  replace B := Lib.hid (B.out.trans (b3.mono B.out.size))
  clear b3
  go_wp2_with fail
  refine (HA1.out p b _ (HK.out.keep B.out) S.out).mono ?_
  rintro e W4 ⟨rfl, hS3, hg3⟩
  replace T := Lib.hid (T.out.keep hg3 (fun e => hbr (Option.some.inj e)) (fun e => hbd (Option.some.inj e)))
  replace S := Lib.hid hS3
  replace B := Lib.hid (B.out.grown hg3 B.out.size (fun j e => by cases e; exact hb))
  clear hS3 hg3
  go_wp2_with fail
  refine (HP1.out _).mono ?_
  rintro e W5 ⟨rfl, b3⟩
  replace S := Lib.hid (S.out.below b3)
  replace T := Lib.hid (T.out.below b3)
  replace B := Lib.hid (B.out.trans (b3.mono B.out.size))
  clear b3
  go_wp2_with fail
  refine (HA2.out p b _ (HK.out.keep B.out) S.out).mono ?_
  rintro e W6 ⟨rfl, hS3, hg3⟩
  replace T := Lib.hid (T.out.keep hg3 (fun e => hbr (Option.some.inj e)) (fun e => hbd (Option.some.inj e)))
  replace S := Lib.hid hS3
  replace B := Lib.hid (B.out.grown hg3 B.out.size (fun j e => by cases e; exact hb))
  clear hS3 hg3
  go_wp2_with fail
  refine (HAZ.out p b _ (HK.out.keep B.out) S.out).mono ?_
  rintro e W7 ⟨rfl, hS3, hg3⟩
  replace T := Lib.hid (T.out.keep hg3 (fun e => hbr (Option.some.inj e)) (fun e => hbd (Option.some.inj e)))
  replace S := Lib.hid hS3
  replace B := Lib.hid (B.out.grown hg3 B.out.size (fun j e => by cases e; exact hb))
  clear hS3 hg3
  go_wp2_with fail
  refine (HP2.out _).mono ?_
  rintro e W8 ⟨rfl, b3⟩
  replace S := Lib.hid (S.out.below b3)
  replace T := Lib.hid (T.out.below b3)
  replace B := Lib.hid (B.out.trans (b3.mono B.out.size))
  clear b3
  go_wp2_with fail
  refine (HB1.out r d _ (HK.out.keep B.out) T.out).mono ?_
  rintro e W9 ⟨rfl, hS3, hg3⟩
  replace S := Lib.hid (S.out.keep hg3 (fun e => hdp (Option.some.inj e)) (fun e => hdb (Option.some.inj e)))
  replace T := Lib.hid hS3
  replace B := Lib.hid (B.out.grown hg3 B.out.size (fun j e => by cases e; exact hwd))
  clear hS3 hg3
  go_wp2_with fail
  refine (uniU p b r d _ S.out T.out hbd hbr).mono ?_
  rintro e WA ⟨rfl, hS3, hg3⟩
  replace T := Lib.hid (T.out.keep hg3 (fun e => hbr (Option.some.inj e)) (fun e => hbd (Option.some.inj e)))
  replace S := Lib.hid hS3
  replace B := Lib.hid (B.out.grown hg3 B.out.size (fun j e => by cases e; exact hb))
  clear hS3 hg3
  go_wp2_with fail
  clear HP1 HP2 HA1 HA2 HAZ HB1
  refine (IDs_calls (some ⟨p, 0, none⟩) eU WA (.inr ⟨p, b, rfl, S.out, good_U⟩)).mono ?_
  rintro e WB ⟨lv, rfl, hrow, b3⟩
  obtain ⟨A, cap, rfl, hcap, hs, hA⟩ := RowS.addr hrow
  have hlen : (eU.map (·.1)).length = 2 := by rw [List.length_map, U_length]
  rw [hlen] at hcap hA
  have hids : eU.map (·.1) = [x.1, y.1] := by rw [hxy]; rfl
  rw [hids] at hs
  obtain ⟨gl, rfl⟩ : ∃ gl, A = some ⟨gl, 0, none⟩ := hA.elim (fun h => absurd h.2.2 (by decide)) id
  have L : Hid (StrsAt WB gl 0 [x.1, y.1]) := Lib.hid (strs_at (Hid.out hs) (by simp))
  replace S := Lib.hid (S.out.below b3)
  replace T := Lib.hid (T.out.below b3)
  replace B := Lib.hid (B.out.trans (b3.mono B.out.size))
  have hc1 : ¬ cap = 1 := by omega
  clear b3 hrow hs hA hids
  rw [hlen]
  have c0 : WB.cell? ⟨gl, 0, none⟩ = some (.string ⟨x.1.toArray⟩) := L.out 0 (by simp)
  generalize hX : (⟨x.1.toArray⟩ : ByteArray) = X at *
  have HX := Lib.hid hX
  clear hX hlen
  go_wp2_with fail
  refine (getX hxy hx2 ht p b WB X HX.out S.out).mono ?_
  rintro e WC ⟨rfl, b3⟩
  replace S := Lib.hid (S.out.below b3)
  replace T := Lib.hid (T.out.below b3)
  replace B := Lib.hid (B.out.trans (Below.mono b3 B.out.size))
  replace L := Lib.hid (L.out.keep b3)
  clear b3 c0
  have hone := factC_one v t
  go_upto_region 14 with (refine wpList_store_row rfl 40 _ _ rfl WC.heap.size (factC v t) rfl rfl 40 (factC (fun _ => 0) ⟨#[]⟩) (heap_new WC _) (hiC _ _) rfl hone ?_)
  obtain ⟨WD, hWD, f1, b3⟩ : ∃ WD, (WC.alloc (.cells (factC (fun _ => 0) ⟨#[]⟩) 40)).setRow WC.heap.size (factC v t) = WD ∧ WD.heap[WC.heap.size]? = some (.cells (factC v t) 40 (0, 0)) ∧ Below WC.heap.size WC WD :=
    ⟨_, rfl, setRow_heap _ _ _ _ _ _ (heap_new WC _), below_setRow' ((Below.refl _ WC).alloc (Nat.le_refl _) _) _ _ (Nat.le_refl _)⟩
  rw [hWD]
  clear hWD hone
  replace S := Lib.hid (S.out.below b3)
  replace T := Lib.hid (T.out.below b3)
  replace B := Lib.hid (B.out.trans (Below.mono b3 B.out.size))
  replace L := Lib.hid (L.out.keep b3)
  have F := Lib.hid (show WD.cell? ⟨WC.heap.size, 0, none⟩ = some (.int .i64 1) by rw [cell_of_row _ _ _ _ _ _ f1, ← hv0]; rfl)
  clear f1 b3 hv0
  generalize WC.heap.size = fb at *
  go_wp2_with fail
  refine (partY hxy p b WD gl (cap - 1) (by omega) S.out L.out).mono ?_
  rintro e WE ⟨p3, d3, rfl, hS3, hp3, hd3, b3⟩
  replace S := Lib.hid (S.out.below b3)
  replace T := Lib.hid (T.out.below b3)
  replace B := Lib.hid (B.out.trans (Below.mono b3 B.out.size))
  replace L := Lib.hid (L.out.keep b3)
  replace F := Lib.hid (cell_keep F.out b3)
  have P := Lib.hid hS3
  clear b3 hS3
  go_wp2_with fail
  have b3 : Below WE.heap.size WE (WE.alloc (.cells #[.string ⟨#[120]⟩] 9)) := (Below.refl _ WE).alloc (Nat.le_refl _) _
  have hs4 := Strs.oneB WE ⟨#[120]⟩
  replace S := Lib.hid (S.out.below b3)
  replace T := Lib.hid (T.out.below b3)
  replace B := Lib.hid (B.out.trans (Below.mono b3 B.out.size))
  replace L := Lib.hid (L.out.keep b3)
  replace F := Lib.hid (cell_keep F.out b3)
  replace P := Lib.hid (P.out.below b3)
  clear b3
  refine (Part_miss p b eU [[120]] (some ⟨WE.heap.size, 0, none⟩) 1 _ S.out good_U hs4 (by decide) (by decide) (by decide) (miss_x good_U)).mono ?_
  rintro e WF ⟨rfl, b3⟩
  replace S := Lib.hid (S.out.below b3)
  replace T := Lib.hid (T.out.below b3)
  replace B := Lib.hid (B.out.trans (Below.mono b3 B.out.size))
  replace L := Lib.hid (L.out.keep b3)
  replace F := Lib.hid (cell_keep F.out b3)
  replace P := Lib.hid (P.out.below b3)
  clear b3 hs4
  have c0 : WF.cell? ⟨gl, 0, none⟩ = some (.string X) := by rw [← HX.out]; exact L.out 0 (by simp)
  go_wp2_with fail
  have b3 : Below WF.heap.size WF (WF.alloc (.cells #[.string ⟨#[98]⟩, .string X, .string ⟨#[97]⟩, .string ⟨#[98]⟩] 9)) := (Below.refl _ WF).alloc (Nat.le_refl _) _
  have hs4 : Strs (WF.alloc (.cells #[.string ⟨#[98]⟩, .string X, .string ⟨#[97]⟩, .string ⟨#[98]⟩] 9)) (some ⟨WF.heap.size, 0, none⟩) [[98], x.1, [97], [98]] := by rw [← HX.out]; exact strs_four WF x.1
  replace S := Lib.hid (S.out.below b3)
  replace T := Lib.hid (T.out.below b3)
  replace B := Lib.hid (B.out.trans (Below.mono b3 B.out.size))
  replace L := Lib.hid (L.out.keep b3)
  replace F := Lib.hid (cell_keep F.out b3)
  replace P := Lib.hid (P.out.below b3)
  clear b3 c0
  have hmis := Missing_calls (some ⟨p, 0, none⟩) eU [[98], x.1, [97], [98]] (some ⟨WF.heap.size, 0, none⟩) 4 _ (.inr ⟨p, b, rfl, S.out, good_U⟩) hs4 (by simp) (by simp) (four_short hxy)
  rw [miss_four hxy] at hmis
  refine hmis.mono ?_
  rintro e WG ⟨mv, rfl, hrow, -, b3⟩
  obtain ⟨A5, c5, rfl, -, hs5⟩ := RowS.slice hrow
  replace S := Lib.hid (S.out.below b3)
  replace T := Lib.hid (T.out.below b3)
  replace B := Lib.hid (B.out.trans (Below.mono b3 B.out.size))
  replace L := Lib.hid (L.out.keep b3)
  replace F := Lib.hid (cell_keep F.out b3)
  replace P := Lib.hid (P.out.below b3)
  clear b3 hs4 hmis hrow
  have M := Lib.hid hs5
  clear hs5
  have c0 : WG.cell? ⟨gl, 0, none⟩ = some (.string X) := by rw [← HX.out]; exact L.out 0 (by simp)
  have c1 : WG.cell? ⟨gl, 1, none⟩ = some (.string ⟨y.1.toArray⟩) := L.out 1 (by simp)
  have hlt : Op.bytesLess X.toList (⟨y.1.toArray⟩ : ByteArray).toList = true := by
    rw [← HX.out, ByteArray.toList_eq, ByteArray.toList_eq]
    have h := good_U.1
    rw [hxy] at h
    simpa using asc_head h y (by simp)
  generalize hY : (⟨y.1.toArray⟩ : ByteArray) = Y at *
  have HY := Lib.hid hY
  clear hY
  clear c0 c1
  have HLT := Lib.hid hlt
  clear hlt
  have hid : idsE eU = [x.1, y.1] := by unfold idsE; rw [hxy]; rfl
  have HRl := Lib.hid (fun (W : World) (hk : Konst W) (hs : StrsAt W gl 0 [x.1, y.1]) => Root_calls [x.1, y.1] (some ⟨gl, 0, none⟩) cap W hk (by simp) (by simpa using hcap) hs.strs (two_short hxy))
  have hrt := fun w' (hc : Below WG.heap.size WG w') => RootSet p b eU w' (HK.out.keep (B.out.trans (Below.mono hc B.out.size))) (S.out.below hc) good_U
  rw [hid] at hrt
  generalize (⟨(rootF shaF [x.1, y.1]).toArray⟩ : ByteArray) = R at *
  clear hid
  have HRS := Lib.hid hrt
  clear hrt
  go_wp2_with fail
  simp only [List.append_eq, List.cons_append, List.nil_append]
  refine wp_region_mixS 64 (fun w' => Below WG.heap.size WG w') [true, true, true, true, true, true, true, true, true, true, true, true, true, true, true, true, true, true, true, true, true, true, true, true, true, true, true, true, true, true, true, true, true, true, true, true, true, true, true, true, true, true, true, true, true, true, true, true, true, true, true, true, true, true, true, true, true, true, true, false, false, true, true, true, true, false, false, true, true, true, true, true, true, true, true, true, true, true, true, true] [0, 1, 2, 3, 4, 5, 6, 7, 8, 9, 10, 11, 12, 13, 14, 15, 16, 17, 18, 19, 20, 21, 22, 23, 24, 25, 26, 27, 28, 29, 30, 31, 32, 33, 34, 35, 36, 37, 38, 39, 40, 41, 42, 43, 44, 45, 46, 47, 48, 49, 50, 51, 52, 53, 54, 55, 56, 57, 58, 59, 60, 61, 62, 63, 65, 64, 66, 67, 68, 69, 70, 71, 72, 73, 74, 75, 76, 77, 78, 79] (by kernel_rfl) (by kernel_rfl) (by kernel_rfl) (Below.drew (Below.refl _ _)) ?_
  intro w0 hC0
  simp only [swapAt]
  refine mix_val (.bool true) (by rfl) (fun _ _ => by first | rfl | go_simp) ?_
  simp only [Act.put, List.setIfInBounds_toArray, List.set_cons_zero, List.set_cons_succ]
  refine mix_val (.bool true) (by rfl) (fun _ _ => by first | rfl | go_simp) ?_
  simp only [Act.put, List.setIfInBounds_toArray, List.set_cons_zero, List.set_cons_succ]
  refine mix_val (.int .i64 0) (by rfl) (fun _ _ => by first | rfl | go_simp) ?_
  simp only [Act.put, List.setIfInBounds_toArray, List.set_cons_zero, List.set_cons_succ]
  refine mix_val (.bool true) (by rfl) (fun _ _ => by first | rfl | go_simp) ?_
  simp only [Act.put, List.setIfInBounds_toArray, List.set_cons_zero, List.set_cons_succ]
  refine mix_val (.bool true) (by rfl) (fun _ _ => by first | rfl | go_simp) ?_
  simp only [Act.put, List.setIfInBounds_toArray, List.set_cons_zero, List.set_cons_succ]
  refine mix_val (.bool true) (by rfl) (fun _ _ => by first | rfl | go_simp) ?_
  simp only [Act.put, List.setIfInBounds_toArray, List.set_cons_zero, List.set_cons_succ]
  refine mix_val (.bool false) (by rfl) (fun _ _ => by first | rfl | go_simp) ?_
  simp only [Act.put, List.setIfInBounds_toArray, List.set_cons_zero, List.set_cons_succ]
  refine mix_val (.bool true) (by rfl) (fun _ _ => by first | rfl | go_simp) ?_
  simp only [Act.put, List.setIfInBounds_toArray, List.set_cons_zero, List.set_cons_succ]
  refine mix_val (.bool true) (by rfl) (fun _ _ => by first | rfl | go_simp) ?_
  simp only [Act.put, List.setIfInBounds_toArray, List.set_cons_zero, List.set_cons_succ]
  refine mix_val (.bool true) (by rfl) (fun _ _ => by first | rfl | go_simp) ?_
  simp only [Act.put, List.setIfInBounds_toArray, List.set_cons_zero, List.set_cons_succ]
  refine mix_val (.int .i64 0) (by rfl) (fun _ _ => by first | rfl | go_simp) ?_
  simp only [Act.put, List.setIfInBounds_toArray, List.set_cons_zero, List.set_cons_succ]
  refine mix_val (.bool true) (by rfl) (fun _ _ => by first | rfl | go_simp) ?_
  simp only [Act.put, List.setIfInBounds_toArray, List.set_cons_zero, List.set_cons_succ]
  refine mix_val (.bool true) (by rfl) (fun _ _ => by first | rfl | go_simp) ?_
  simp only [Act.put, List.setIfInBounds_toArray, List.set_cons_zero, List.set_cons_succ]
  refine mix_val (.bool true) (by rfl) (fun _ _ => by first | rfl | go_simp) ?_
  simp only [Act.put, List.setIfInBounds_toArray, List.set_cons_zero, List.set_cons_succ]
  refine mix_val (.int .i64 60) (by rfl) (fun _ _ => by first | rfl | go_simp) ?_
  simp only [Act.put, List.setIfInBounds_toArray, List.set_cons_zero, List.set_cons_succ]
  refine mix_val (.bool true) (by rfl) (fun _ _ => by first | rfl | go_simp) ?_
  simp only [Act.put, List.setIfInBounds_toArray, List.set_cons_zero, List.set_cons_succ]
  refine mix_val (.bool true) (by rfl) (fun _ _ => by first | rfl | go_simp) ?_
  simp only [Act.put, List.setIfInBounds_toArray, List.set_cons_zero, List.set_cons_succ]
  refine mix_val (.bool true) (by rfl) (fun _ _ => by first | rfl | go_simp) ?_
  simp only [Act.put, List.setIfInBounds_toArray, List.set_cons_zero, List.set_cons_succ]
  refine mix_val (.bool true) (by rfl) (fun _ _ => by first | rfl | go_simp) ?_
  simp only [Act.put, List.setIfInBounds_toArray, List.set_cons_zero, List.set_cons_succ]
  refine mix_val (.bool true) (by rfl) (fun _ _ => by first | rfl | go_simp) ?_
  simp only [Act.put, List.setIfInBounds_toArray, List.set_cons_zero, List.set_cons_succ]
  refine mix_val (.bool true) (by rfl) (fun _ _ => by first | rfl | go_simp) ?_
  simp only [Act.put, List.setIfInBounds_toArray, List.set_cons_zero, List.set_cons_succ]
  refine mix_val (.int .i64 0) (by rfl) (fun _ _ => by first | rfl | go_simp) ?_
  simp only [Act.put, List.setIfInBounds_toArray, List.set_cons_zero, List.set_cons_succ]
  refine mix_val (.bool true) (by rfl) (fun _ _ => by first | rfl | go_simp) ?_
  simp only [Act.put, List.setIfInBounds_toArray, List.set_cons_zero, List.set_cons_succ]
  refine mix_val (.bool true) (by rfl) (fun _ _ => by first | rfl | go_simp) ?_
  simp only [Act.put, List.setIfInBounds_toArray, List.set_cons_zero, List.set_cons_succ]
  refine mix_val (.bool true) (by rfl) (fun _ _ => by first | rfl | go_simp) ?_
  simp only [Act.put, List.setIfInBounds_toArray, List.set_cons_zero, List.set_cons_succ]
  refine mix_val (.int .i64 0) (by rfl) (fun _ _ => by first | rfl | go_simp) ?_
  simp only [Act.put, List.setIfInBounds_toArray, List.set_cons_zero, List.set_cons_succ]
  refine mix_val (.bool true) (by rfl) (fun _ _ => by first | rfl | go_simp) ?_
  simp only [Act.put, List.setIfInBounds_toArray, List.set_cons_zero, List.set_cons_succ]
  refine mix_val (.bool true) (by rfl) (fun _ _ => by first | rfl | go_simp) ?_
  simp only [Act.put, List.setIfInBounds_toArray, List.set_cons_zero, List.set_cons_succ]
  refine mix_val (.bool true) (by rfl) (fun _ _ => by first | rfl | go_simp) ?_
  simp only [Act.put, List.setIfInBounds_toArray, List.set_cons_zero, List.set_cons_succ]
  refine mix_val (.slice (some ⟨gl, 0, none⟩) 2 cap) (by rfl) (fun _ _ => by first | rfl | go_simp) ?_
  simp only [Act.put, List.setIfInBounds_toArray, List.set_cons_zero, List.set_cons_succ]
  refine mix_val (.pointer (some ⟨gl, 0, none⟩)) (by rfl) (fun _ _ => by first | rfl | go_simp) ?_
  simp only [Act.put, List.setIfInBounds_toArray, List.set_cons_zero, List.set_cons_succ]
  refine mix_load_str (by rfl) _ rfl ⟨gl, 0, none⟩ rfl (.string X) (fun w' hc => by rw [← HX.out]; exact (L.out.keep hc) 0 (by simp)) ?_
  simp only [Act.put, List.setIfInBounds_toArray, List.set_cons_zero, List.set_cons_succ]
  refine mix_val (.slice (some ⟨gl, 0, none⟩) 2 cap) (by rfl) (fun _ _ => by first | rfl | go_simp) ?_
  simp only [Act.put, List.setIfInBounds_toArray, List.set_cons_zero, List.set_cons_succ]
  refine mix_val (.pointer (some ⟨gl, 1, none⟩)) (by rfl) (fun _ _ => by first | rfl | go_simp) ?_
  simp only [Act.put, List.setIfInBounds_toArray, List.set_cons_zero, List.set_cons_succ]
  refine mix_load_str (by rfl) _ rfl ⟨gl, 1, none⟩ rfl (.string Y) (fun w' hc => by rw [← HY.out]; exact (L.out.keep hc) 1 (by simp)) ?_
  simp only [Act.put, List.setIfInBounds_toArray, List.set_cons_zero, List.set_cons_succ]
  refine mix_val (.bool true) (by rfl) (fun _ _ => by have hlt := HLT.out; go_simp; first | done | simp [hlt]) ?_
  simp only [Act.put, List.setIfInBounds_toArray, List.set_cons_zero, List.set_cons_succ]
  refine mix_val (.bool true) (by rfl) (fun _ _ => by first | rfl | go_simp) ?_
  simp only [Act.put, List.setIfInBounds_toArray, List.set_cons_zero, List.set_cons_succ]
  refine mix_val (.bool true) (by rfl) (fun _ _ => by first | rfl | go_simp) ?_
  simp only [Act.put, List.setIfInBounds_toArray, List.set_cons_zero, List.set_cons_succ]
  refine mix_val (.bool true) (by rfl) (fun _ _ => by first | rfl | go_simp) ?_
  simp only [Act.put, List.setIfInBounds_toArray, List.set_cons_zero, List.set_cons_succ]
  refine mix_val (.bool true) (by rfl) (fun _ _ => by first | rfl | go_simp) ?_
  simp only [Act.put, List.setIfInBounds_toArray, List.set_cons_zero, List.set_cons_succ]
  refine mix_val (.bool true) (by rfl) (fun _ _ => by first | rfl | go_simp) ?_
  simp only [Act.put, List.setIfInBounds_toArray, List.set_cons_zero, List.set_cons_succ]
  refine mix_val (.pointer (some ⟨fb, 0, none⟩)) (by rfl) (fun _ _ => by first | rfl | go_simp) ?_
  simp only [Act.put, List.setIfInBounds_toArray, List.set_cons_zero, List.set_cons_succ]
  refine mix_load_int (by rfl) _ rfl ⟨fb, 0, none⟩ rfl (.int .i64 1) (fun w' hc => cell_keep F.out hc) ?_
  simp only [Act.put, List.setIfInBounds_toArray, List.set_cons_zero, List.set_cons_succ]
  refine mix_val (.bool true) (by rfl) (fun _ _ => by first | rfl | go_simp) ?_
  simp only [Act.put, List.setIfInBounds_toArray, List.set_cons_zero, List.set_cons_succ]
  refine mix_val (.bool true) (by rfl) (fun _ _ => by first | rfl | go_simp) ?_
  simp only [Act.put, List.setIfInBounds_toArray, List.set_cons_zero, List.set_cons_succ]
  refine mix_val (.bool true) (by rfl) (fun _ _ => by first | rfl | go_simp) ?_
  simp only [Act.put, List.setIfInBounds_toArray, List.set_cons_zero, List.set_cons_succ]
  refine mix_val (.bool true) (by rfl) (fun _ _ => by first | rfl | go_simp) ?_
  simp only [Act.put, List.setIfInBounds_toArray, List.set_cons_zero, List.set_cons_succ]
  refine mix_val (.bool true) (by rfl) (fun _ _ => by first | rfl | go_simp) ?_
  simp only [Act.put, List.setIfInBounds_toArray, List.set_cons_zero, List.set_cons_succ]
  refine mix_val (.bool true) (by rfl) (fun _ _ => by first | rfl | go_simp) ?_
  simp only [Act.put, List.setIfInBounds_toArray, List.set_cons_zero, List.set_cons_succ]
  refine mix_val (.pointer (some ⟨p3, 0, none⟩)) (by rfl) (fun _ _ => by first | rfl | go_simp) ?_
  simp only [Act.put, List.setIfInBounds_toArray, List.set_cons_zero, List.set_cons_succ]
  refine mix_callC 22 #[(.pointer (some ⟨p3, 0, none⟩))] (.int .i64 1) (by rfl) (fun _ => by go_simp) (fun w' hc => by have h := Len_calls p3 d3 _ w' (P.out.below hc); rw [part_y] at h; exact h) ?_
  simp only [Act.put, List.setIfInBounds_toArray, List.set_cons_zero, List.set_cons_succ]
  refine mix_val (.bool true) (by rfl) (fun _ _ => by first | rfl | go_simp) ?_
  simp only [Act.put, List.setIfInBounds_toArray, List.set_cons_zero, List.set_cons_succ]
  refine mix_val (.bool true) (by rfl) (fun _ _ => by first | rfl | go_simp) ?_
  simp only [Act.put, List.setIfInBounds_toArray, List.set_cons_zero, List.set_cons_succ]
  refine mix_val (.bool true) (by rfl) (fun _ _ => by first | rfl | go_simp) ?_
  simp only [Act.put, List.setIfInBounds_toArray, List.set_cons_zero, List.set_cons_succ]
  refine mix_val (.bool false) (by rfl) (fun _ _ => by first | rfl | go_simp) ?_
  simp only [Act.put, List.setIfInBounds_toArray, List.set_cons_zero, List.set_cons_succ]
  refine mix_val (.bool true) (by rfl) (fun _ _ => by first | rfl | go_simp) ?_
  simp only [Act.put, List.setIfInBounds_toArray, List.set_cons_zero, List.set_cons_succ]
  refine mix_val (.bool true) (by rfl) (fun _ _ => by first | rfl | go_simp) ?_
  simp only [Act.put, List.setIfInBounds_toArray, List.set_cons_zero, List.set_cons_succ]
  refine mix_val (.bool true) (by rfl) (fun _ _ => by first | rfl | go_simp) ?_
  simp only [Act.put, List.setIfInBounds_toArray, List.set_cons_zero, List.set_cons_succ]
  refine mix_val (.slice A5 2 c5) (by rfl) (fun _ _ => by first | rfl | go_simp) ?_
  simp only [Act.put, List.setIfInBounds_toArray, List.set_cons_zero, List.set_cons_succ]
  refine mix_stand (w0.alloc (.cells #[.string ⟨#[97]⟩, .string ⟨#[98]⟩] 9)) (.slice (some ⟨w0.heap.size, 0, none⟩) 2 2) (by rfl) (by go_simp) (hC0.alloc hC0.size _) ?_
  simp only [Act.put, List.setIfInBounds_toArray, List.set_cons_zero, List.set_cons_succ]
  have hss := same_any [[97], [98]] [[97], [98]] A5 (some ⟨w0.heap.size, 0, none⟩) c5 2 _ (M.out.keep (hC0.alloc hC0.size _)) (strs_two w0) (by decide)
  rw [decide_eq_true rfl] at hss
  refine mix_stand_call 15 #[(.slice A5 2 c5), .slice (some ⟨w0.heap.size, 0, none⟩) 2 2] (.bool true) (by rfl) (by go_simp) (hss.mono (fun e w2 he => ⟨he.1, (hC0.alloc hC0.size _).trans (he.2.mono (hC0.alloc hC0.size _).size)⟩)) ?_
  clear hss hC0
  intro w0 hC0
  simp only [Act.put, List.setIfInBounds_toArray, List.set_cons_zero, List.set_cons_succ]
  refine mix_val (.bool true) (by rfl) (fun _ _ => by first | rfl | go_simp) ?_
  simp only [Act.put, List.setIfInBounds_toArray, List.set_cons_zero, List.set_cons_succ]
  refine mix_val (.bool true) (by rfl) (fun _ _ => by first | rfl | go_simp) ?_
  simp only [Act.put, List.setIfInBounds_toArray, List.set_cons_zero, List.set_cons_succ]
  refine mix_val (.pointer (some ⟨p, 0, none⟩)) (by rfl) (fun _ _ => by first | rfl | go_simp) ?_
  simp only [Act.put, List.setIfInBounds_toArray, List.set_cons_zero, List.set_cons_succ]
  refine mix_val (.slice (some ⟨gl, 0, none⟩) 2 cap) (by rfl) (fun _ _ => by first | rfl | go_simp) ?_
  simp only [Act.put, List.setIfInBounds_toArray, List.set_cons_zero, List.set_cons_succ]
  refine mix_stand_call 23 #[(.pointer (some ⟨p, 0, none⟩))] (.string R) (by rfl) (by go_simp) ((HRS.out _ hC0).mono (fun e w2 he => ⟨he.1, hC0.trans (he.2.mono hC0.size)⟩)) ?_
  clear hC0
  intro w0 hC0
  simp only [Act.put, List.setIfInBounds_toArray, List.set_cons_zero, List.set_cons_succ]
  refine mix_stand_call 29 #[(.slice (some ⟨gl, 0, none⟩) 2 cap)] (.string R) (by rfl) (by go_simp) ((HRl.out _ (HK.out.keep (B.out.trans (Below.mono hC0 B.out.size))) (L.out.keep hC0)).mono (fun e w2 he => ⟨he.1, hC0.trans (he.2.mono hC0.size)⟩)) ?_
  clear hC0
  intro w0 hC0
  simp only [Act.put, List.setIfInBounds_toArray, List.set_cons_zero, List.set_cons_succ]
  refine mix_val (.bool true) (by rfl) (fun _ _ => by first | rfl | go_simp) ?_
  simp only [Act.put, List.setIfInBounds_toArray, List.set_cons_zero, List.set_cons_succ]
  refine mix_val (.bool true) (by rfl) (fun _ _ => by first | rfl | go_simp) ?_
  simp only [Act.put, List.setIfInBounds_toArray, List.set_cons_zero, List.set_cons_succ]
  refine mix_val (.bool true) (by rfl) (fun _ _ => by first | rfl | go_simp) ?_
  simp only [Act.put, List.setIfInBounds_toArray, List.set_cons_zero, List.set_cons_succ]
  refine mix_val (.pointer (some ⟨p, 0, none⟩)) (by rfl) (fun _ _ => by first | rfl | go_simp) ?_
  simp only [Act.put, List.setIfInBounds_toArray, List.set_cons_zero, List.set_cons_succ]
  refine mix_callC 22 #[(.pointer (some ⟨p, 0, none⟩))] (.int .i64 2) (by rfl) (fun _ => by go_simp) (fun w' hc => by have h := Len_calls p b eU w' (S.out.below hc); rw [U_length] at h; exact h) ?_
  simp only [Act.put, List.setIfInBounds_toArray, List.set_cons_zero, List.set_cons_succ]
  refine mix_val (.bool true) (by rfl) (fun _ _ => by first | rfl | go_simp) ?_
  simp only [Act.put, List.setIfInBounds_toArray, List.set_cons_zero, List.set_cons_succ]
  refine mix_val (.bool true) (by rfl) (fun _ _ => by first | rfl | go_simp) ?_
  simp only [Act.put, List.setIfInBounds_toArray, List.set_cons_zero, List.set_cons_succ]
  refine mix_val (.bool true) (by rfl) (fun _ _ => by first | rfl | go_simp) ?_
  simp only [Act.put, List.setIfInBounds_toArray, List.set_cons_zero, List.set_cons_succ]
  refine mix_val (.pointer (some ⟨r, 0, none⟩)) (by rfl) (fun _ _ => by first | rfl | go_simp) ?_
  simp only [Act.put, List.setIfInBounds_toArray, List.set_cons_zero, List.set_cons_succ]
  refine mix_callC 22 #[(.pointer (some ⟨r, 0, none⟩))] (.int .i64 1) (by rfl) (fun _ => by go_simp) (fun w' hc => Len_calls r d eB w' (T.out.below hc)) ?_
  simp only [Act.put, List.setIfInBounds_toArray, List.set_cons_zero, List.set_cons_succ]
  refine mix_val (.bool true) (by rfl) (fun _ _ => by first | rfl | go_simp) ?_
  simp only [Act.put, List.setIfInBounds_toArray, List.set_cons_zero, List.set_cons_succ]
  refine mix_val (.bool true) (by rfl) (fun _ _ => by first | rfl | go_simp) ?_
  simp only [Act.put, List.setIfInBounds_toArray, List.set_cons_zero, List.set_cons_succ]
  refine mix_val (.bool true) (by rfl) (fun _ _ => by first | rfl | go_simp) ?_
  simp only [Act.put, List.setIfInBounds_toArray, List.set_cons_zero]
  refine mix_done (P := Tryz.prog) (ops := #[]) (C := fun _ => True) ?_
  go_wp2_with fail
  go_ret
  exact ⟨rfl, B.out.trans (Below.mono hC0 B.out.size)⟩
end Go.Proofs.YtnndnjnpkjpkpaaGreatDoor
