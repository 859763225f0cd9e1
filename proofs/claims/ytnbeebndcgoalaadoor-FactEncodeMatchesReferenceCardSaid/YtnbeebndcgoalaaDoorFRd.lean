/- Contracts of package fact's reader. Conditions: the variable errForm holds an error of its own; the string's length fits an int. -/
import Derived.Test.YtnbeebndcgoalaaDoorFCur
namespace Go.Proofs.YtnbeebndcgoalaaDoor
open Go.RowKit
/-- A reader's cells: the string, the place, the fact's 17 numbers and its text. -/
abbrev rdC (s : ByteArray) (a : Int) (v : Nat → Int) (t : ByteArray) : Array Value := #[.string s, .int .i64 a, .int .i64 (v 0), .int .i64 (v 1), .int .i64 (v 2), .int .i64 (v 3), .int .i64 (v 4), .int .i64 (v 5), .int .i64 (v 6), .int .i64 (v 7), .int .i64 (v 8), .int .i64 (v 9), .int .i64 (v 10), .int .i64 (v 11), .int .i64 (v 12), .int .i64 (v 13), .int .i64 (v 14), .int .i64 (v 15), .int .i64 (v 16), .string t]
theorem rdC_num (s : ByteArray) (a : Int) (v : Nat → Int) (t : ByteArray) (k : Nat) (h : k < 17) : (rdC s a v t)[2 + k]? = some (.int .i64 (v k)) := by
  have hc : k = 0 ∨ k = 1 ∨ k = 2 ∨ k = 3 ∨ k = 4 ∨ k = 5 ∨ k = 6 ∨ k = 7 ∨ k = 8 ∨ k = 9 ∨ k = 10 ∨ k = 11 ∨ k = 12 ∨ k = 13 ∨ k = 14 ∨ k = 15 ∨ k = 16 := by omega
  rcases hc with rfl | rfl | rfl | rfl | rfl | rfl | rfl | rfl | rfl | rfl | rfl | rfl | rfl | rfl | rfl | rfl | rfl <;> rfl
theorem rdC_set (s : ByteArray) (a : Int) (v : Nat → Int) (t : ByteArray) (k : Nat) (h : k < 17) (x : Int) : (rdC s a v t).setIfInBounds (2 + k) (.int .i64 x) = rdC s a (fun i => if i = k then x else v i) t := by
  have hc : k = 0 ∨ k = 1 ∨ k = 2 ∨ k = 3 ∨ k = 4 ∨ k = 5 ∨ k = 6 ∨ k = 7 ∨ k = 8 ∨ k = 9 ∨ k = 10 ∨ k = 11 ∨ k = 12 ∨ k = 13 ∨ k = 14 ∨ k = 15 ∨ k = 16 := by omega
  rcases hc with rfl | rfl | rfl | rfl | rfl | rfl | rfl | rfl | rfl | rfl | rfl | rfl | rfl | rfl | rfl | rfl | rfl <;> rfl
theorem rdC_at (s : ByteArray) (a b : Int) (v : Nat → Int) (t : ByteArray) : (rdC s a v t).setIfInBounds 1 (.int .i64 b) = rdC s b v t := rfl
theorem rdC_text (s : ByteArray) (a : Int) (v : Nat → Int) (t u : ByteArray) : (rdC s a v t).setIfInBounds 19 (.string u) = rdC s a v u := rfl
theorem rdC_congr (s : ByteArray) (a : Int) (u v : Nat → Int) (t : ByteArray) (h : ∀ i, i < 17 → u i = v i) : rdC s a u t = rdC s a v t := by
  have : ∀ i, i < 17 → Value.int .i64 (u i) = Value.int .i64 (v i) := fun i hi => by rw [h i hi]
  simp only [rdC, this 0 (by omega), this 1 (by omega), this 2 (by omega), this 3 (by omega), this 4 (by omega), this 5 (by omega), this 6 (by omega), this 7 (by omega), this 8 (by omega), this 9 (by omega), this 10 (by omega), this 11 (by omega), this 12 (by omega), this 13 (by omega), this 14 (by omega), this 15 (by omega), this 16 (by omega)]
/-- A reader in block b. -/
def Rd (w : World) (b : Nat) (s : ByteArray) (a : Int) (v : Nat → Int) (t : ByteArray) : Prop := w.heap[b]? = some (.cells (rdC s a v t) 87 (0, 0))
theorem Rd.c0 {w : World} {b : Nat} {s : ByteArray} {a : Int} {v : Nat → Int} {t : ByteArray} (h : Rd w b s a v t) : w.cell? ⟨b, 0, none⟩ = some (.string s) := by rw [cell_of_row _ _ _ _ _ _ h]; rfl
theorem Rd.c1 {w : World} {b : Nat} {s : ByteArray} {a : Int} {v : Nat → Int} {t : ByteArray} (h : Rd w b s a v t) : w.cell? ⟨b, 1, none⟩ = some (.int .i64 a) := by rw [cell_of_row _ _ _ _ _ _ h]; rfl
theorem Rd.fz {w : World} {b : Nat} {s : ByteArray} {a : Int} {v : Nat → Int} {t : ByteArray} (h : Rd w b s a v t) (j : Nat) : w.frozen? ⟨b, j, none⟩ = false := frozen_of_row _ _ _ _ _ h
theorem Rd.keep {w w' : World} {b : Nat} {s : ByteArray} {a : Int} {v : Nat → Int} {t : ByteArray} (h : Rd w b s a v t) (hb : Hl w w') : Rd w' b s a v t := hb.row h
theorem Rd.moved {w : World} {b : Nat} {s : ByteArray} {a : Int} {v : Nat → Int} {t : ByteArray} (h : Rd w b s a v t) (c : Int) : Rd (w.setCell ⟨b, 1, none⟩ (.int .i64 c)) b s c v t := by
  unfold Rd
  rw [heap_setCell_same _ _ _ _ _ _ h, rdC_at]
theorem Rd.drewN {w : World} {b : Nat} {s : ByteArray} {a : Int} {v : Nat → Int} {t : ByteArray} (h : Rd w b s a v t) (n : Nat) : Rd (w.drewN n) b s a v t := h

/-- What all leaves: the reader read whole; or a panic. -/
def Left (a : Addr) (s : ByteArray) (b : Nat) (w : World) (e : Ending) (w' : World) : Prop :=
  Below b w w' ∧ ((∃ l t, rdF s.data.toList = some (l, t) ∧ e = .returned (.tuple #[]) ∧ Rd w' b s (s.size : Int) (nthI l) ⟨t.toArray⟩) ∨ (rdF s.data.toList = none ∧ e = .panicked (boom a)))
theorem left_ok {a : Addr} {s : ByteArray} {b : Nat} {w w' : World} {l : List Int} {t : List UInt8} (h1 : Below b w w') (h2 : rdF s.data.toList = some (l, t)) (h3 : Rd w' b s (s.size : Int) (nthI l) ⟨t.toArray⟩) : Left a s b w (.returned (.tuple #[])) w' := ⟨h1, .inl ⟨l, t, h2, rfl, h3⟩⟩
theorem left_not {a : Addr} {s : ByteArray} {b : Nat} {w w' : World} (h1 : Below b w w') (h2 : rdF s.data.toList = none) : Left a s b w (.panicked (boom a)) w' := ⟨h1, .inr ⟨h2, rfl⟩⟩
theorem rdA_none_all (s : List UInt8) (k : Nat) : ∀ m, k ≤ m → rdA s k = none → rdA s m = none := by
  intro m
  induction m with
  | zero =>
    intro h1 h2
    have e : k = 0 := by omega
    rw [e] at h2
    exact h2
  | succ m ih =>
    intro h1 h2
    by_cases e : k = m + 1
    · subst e; exact h2
    · rw [rdA, ih (by omega) h2]
theorem ErrK.keep {a : Addr} {w w' : World} {b : Nat} (h : ErrK a w) (hb : Below b w w') (hg : 0 < b) : ErrK a w' := (hb.cell (p := ⟨0, 0, none⟩) hg).trans h

set_option maxRecDepth 100000 in
set_option maxHeartbeats 4000000 in
theorem all_calls (b : Nat) (s : ByteArray) (a : Addr) (w : World) (hR : Rd w b s 0 zeroV ⟨#[]⟩) (hE : ErrK a w) (hg : 0 < b) (hs : s.size ≤ 9223372036854775807) :
    Calls Tryd.prog 65 #[.pointer (some ⟨b, 0, none⟩)] w (Left a s b w) := by
  have HR := Lib.hid hR
  have HE := Lib.hid hE
  have Hg := Lib.hid hg
  have hbw : b < w.heap.size := (Array.getElem?_eq_some_iff.1 hR).1
  clear hR hE hg
  go_enter Tryd.func65, Tryd.ntmps65
  go_wp2_with fail
  refine (numbers_calls b 2 _).mono ?_
  rintro e W1 ⟨rfl, b1⟩
  have R1 := Lib.hid (HR.out.keep b1)
  have B1 := Lib.hid (show Below b w W1 from b1.mono (by omega))
  have E1 := Lib.hid (HE.out.keep B1.out Hg.out)
  clear b1 HR HE
  go_wp2_with fail
  go_loopw [8] (fun kv wr => ∃ (k : Nat) (l : List Int) (at' : Nat), k ≤ 17 ∧ kv = .int .i64 k ∧ Hid (rdA s.data.toList k = some (l, at')) ∧ Hid (Rd wr b s (at' : Int) (nthI l) ⟨#[]⟩) ∧ Hid (ErrK a wr) ∧ Hid (Below b w wr)) (fun kv _ => 17 - (intOf kv).toNat)
  case atStart => exact ⟨0, [], 0, by omega, rfl, Lib.hid rfl, R1, E1, B1⟩
  case round =>
    obtain ⟨k, l, at', hk, rfl, HA, R2, E2, B2⟩ := hrel
    clear R1 E1 B1
    obtain ⟨hl, hat, -, -⟩ := rdA_some _ _ _ _ HA.out
    have hat2 : at' ≤ s.size := hat
    have Hl1 := Lib.hid hl
    clear hl hat
    have hbr : b < wr.heap.size := (Array.getElem?_eq_some_iff.1 R2.out).1
    by_cases hlt : k < 17
    · have hix := fun W => ptrL_at b 2 k hlt W
      have HS : Hid (rdA s.data.toList (k + 1) = (match getI s.data.toList at' with | none => none | some (n, e) => some (l ++ [n], e))) := Lib.hid (by rw [rdA, HA.out]; rfl)
      rcases hgi : getI s.data.toList at' with _ | ⟨n, m⟩
      · have HN := Lib.hid (number_not b s at' a wr E2.out R2.out.c0 R2.out.c1 hs hat2 hgi)
        have HF : Hid (rdF s.data.toList = none) := Lib.hid (by
          have h1 : rdA s.data.toList (k + 1) = none := by rw [HS.out, hgi]
          unfold rdF
          rw [rdA_none_all _ _ 17 (by omega) h1])
        clear hgi HS
        go_wp2_with fail
        refine HN.out.mono ?_
        rintro e W3 ⟨rfl, nq, rfl⟩
        go_wp2_with fail
        exact ⟨rfl, left_not (below_drewN B2.out nq) HF.out⟩
      · have HN := Lib.hid (number_ok b s at' n m wr R2.out.c0 R2.out.c1 (R2.out.fz 1) hs hat2 hgi)
        have HA2 : Hid (rdA s.data.toList (k + 1) = some (l ++ [n], m)) := Lib.hid (by rw [HS.out, hgi])
        clear hgi HS
        go_wp2_with fail
        refine HN.out.mono ?_
        rintro e W3 ⟨rfl, nq, rfl⟩
        obtain ⟨W4, hW4, R4, E4, B4⟩ : ∃ W4, (wr.drewN nq).setCell ⟨b, 1, none⟩ (.int .i64 (m : Int)) = W4 ∧ Hid (Rd W4 b s (m : Int) (nthI l) ⟨#[]⟩) ∧ Hid (ErrK a W4) ∧ Hid (Below b w W4) := by
          have hB : Below b w ((wr.drewN nq).setCell ⟨b, 1, none⟩ (.int .i64 (m : Int))) := (below_drewN B2.out nq).setCell (p := ⟨b, 1, none⟩) (Nat.le_refl _) _
          have hB2 : Below b wr ((wr.drewN nq).setCell ⟨b, 1, none⟩ (.int .i64 (m : Int))) := (below_drewN ((Below.refl wr.heap.size wr).mono (show b ≤ wr.heap.size by omega)) nq).setCell (p := ⟨b, 1, none⟩) (Nat.le_refl _) _
          exact ⟨_, rfl, Lib.hid ((R2.out.drewN nq).moved (m : Int)), Lib.hid (E2.out.keep hB2 Hg.out), Lib.hid hB⟩
        rw [hW4]
        clear hW4 R2 E2 B2 HN
        have ck : W4.cell? ⟨b, 2 + k, none⟩ = some (.int .i64 (nthI l k)) := by rw [cell_of_row _ _ _ _ _ _ R4.out]; exact rdC_num _ _ _ _ k hlt
        have fk := R4.out.fz (2 + k)
        have R5 : Hid (Rd (W4.setCell ⟨b, 2 + k, none⟩ (.int .i64 n)) b s (m : Int) (nthI (l ++ [n])) ⟨#[]⟩) := Lib.hid (by
          unfold Rd
          rw [heap_setCell_same _ _ _ _ _ _ R4.out, rdC_set _ _ _ _ _ hlt]
          refine congrArg (fun c => some (Obj.cells c 87 (0, 0))) (rdC_congr _ _ _ _ _ fun i hi => ?_)
          rw [nthI_snoc, Hl1.out])
        have B5 := Lib.hid (B4.out.setCell (p := ⟨b, 2 + k, none⟩) (Nat.le_refl _) (.int .i64 n))
        have E5 := Lib.hid (E4.out.keep (((Below.refl _ W4).mono (show b ≤ W4.heap.size from Nat.le_of_lt (Array.getElem?_eq_some_iff.1 R4.out).1)).setCell (p := ⟨b, 2 + k, none⟩) (Nat.le_refl _) (.int .i64 n)) Hg.out)
        clear R4 E4 B4
        generalize nthI l k = z at *
        go_wp2_with fail
        go_roundw
        case rel => exact ⟨k + 1, l ++ [n], m, by omega, by go_num, HA2, R5, E5, B5⟩
        case measure => simp [intOf]; omega
    · obtain rfl : k = 17 := by omega
      rw [show ((17 : Nat) : Int) = 17 from rfl]
      have HS : Hid (rdF s.data.toList = (match getS s.data.toList at' with | none => none | some (t, e) => if e < s.data.toList.length then none else some (l, t))) := Lib.hid (by unfold rdF; rw [HA.out]; rfl)
      rcases hgi : getS s.data.toList at' with _ | ⟨t, m⟩
      · have HN := Lib.hid (text_not b s at' a wr E2.out R2.out.c0 R2.out.c1 hs hat2 hgi)
        have HF : Hid (rdF s.data.toList = none) := Lib.hid (by rw [HS.out, hgi])
        clear hgi HS
        go_wp2_with fail
        refine HN.out.mono ?_
        rintro e W3 ⟨rfl, h3⟩
        go_wp2_with fail
        exact ⟨rfl, left_not (B2.out.trans (Below.mono h3 (by omega))) HF.out⟩
      · have HN := Lib.hid (text_ok b s at' t m wr R2.out.c0 R2.out.c1 (R2.out.fz 1) hs hat2 hgi)
        have hm : m ≤ s.size := (getS_sound _ _ _ _ hgi).2.2.1
        have HF : Hid (rdF s.data.toList = if m < s.size then none else some (l, t)) := Lib.hid (by rw [HS.out, hgi]; rfl)
        clear hgi HS
        go_wp2_with fail
        refine HN.out.mono ?_
        rintro e W3 ⟨rfl, w1, h1, rfl⟩
        obtain ⟨W4, hW4, R4, E4, B4⟩ : ∃ W4, w1.setCell ⟨b, 1, none⟩ (.int .i64 (m : Int)) = W4 ∧ Hid (Rd W4 b s (m : Int) (nthI l) ⟨#[]⟩) ∧ Hid (ErrK a W4) ∧ Hid (Below b w W4) := by
          have hB1 : Below b wr w1 := Below.mono h1 (by omega)
          have hB2 : Below b wr (w1.setCell ⟨b, 1, none⟩ (.int .i64 (m : Int))) := hB1.setCell (p := ⟨b, 1, none⟩) (Nat.le_refl _) _
          exact ⟨_, rfl, Lib.hid ((R2.out.keep h1).moved (m : Int)), Lib.hid (E2.out.keep hB2 Hg.out), Lib.hid (B2.out.trans hB2)⟩
        rw [hW4]
        clear hW4 R2 E2 B2 HN h1
        have ck : W4.cell? ⟨b, 19, none⟩ = some (.string ⟨#[]⟩) := by rw [cell_of_row _ _ _ _ _ _ R4.out]; rfl
        have fk := R4.out.fz 19
        have hb4 : b < W4.heap.size := (Array.getElem?_eq_some_iff.1 R4.out).1
        obtain ⟨W5, hW5, R5, E5, B5⟩ : ∃ W5, W4.setCell ⟨b, 19, none⟩ (.string ⟨t.toArray⟩) = W5 ∧ Hid (Rd W5 b s (m : Int) (nthI l) ⟨t.toArray⟩) ∧ Hid (ErrK a W5) ∧ Hid (Below b w W5) :=
          ⟨_, rfl, Lib.hid (by unfold Rd; rw [heap_setCell_same _ _ _ _ _ _ R4.out, rdC_text]), Lib.hid (E4.out.keep (((Below.refl _ W4).mono (Nat.le_of_lt hb4)).setCell (p := ⟨b, 19, none⟩) (Nat.le_refl _) _) Hg.out), Lib.hid (B4.out.setCell (p := ⟨b, 19, none⟩) (Nat.le_refl _) _)⟩
        go_upto_region 6 with (fail)
        clear hW5 R4 E4 B4 ck fk hb4
        by_cases hms : m < s.size
        · have HN := Lib.hid (end_not b s m a W5 E5.out R5.out.c0 R5.out.c1 (by omega))
          have HF2 : Hid (rdF s.data.toList = none) := Lib.hid (by rw [HF.out, if_pos hms])
          go_wp2_with fail
          refine HN.out.mono ?_
          rintro e W6 ⟨rfl, nq, rfl⟩
          go_wp2_with fail
          exact ⟨rfl, left_not (below_drewN B5.out nq) HF2.out⟩
        · have HN := Lib.hid (end_ok b s m W5 R5.out.c0 R5.out.c1 (by omega))
          have HF2 : Hid (rdF s.data.toList = some (l, t)) := Lib.hid (by rw [HF.out, if_neg hms])
          obtain rfl : m = s.size := by omega
          go_wp2_with fail
          refine HN.out.mono ?_
          rintro e W6 ⟨rfl, nq, rfl⟩
          go_wp2_with fail
          go_end0
          exact left_ok (below_drewN B5.out nq) HF2.out (R5.out.drewN nq)

end Go.Proofs.YtnbeebndcgoalaaDoor
