/- The contract of the laws' facts. -/
import Derived.Test.YtngkfopdlkddnaaK34
import Derived.Test.YtngkfopdlkddnaaK28
import Derived.Test.YtngkfopdlkddnaaK16
namespace Go.Proofs.Ytngkfopdlkddnaa
open Go Go.RowKit Go.Maps
abbrev zero6 : Nat → Int := fun _ => 0
/-- Arrays of six numbers in a slice. -/
def SixAt (w : World) (b o : Nat) (xs : List (Nat → Int)) : Prop := ∀ i, i < xs.length → ∀ j, j < 6 → w.cell? ⟨b, o + i * 6 + j, none⟩ = some (.int .i64 ((xs.getD i zero6) j))
def SixS (w : World) (A : Option Addr) (xs : List (Nat → Int)) : Prop := xs = [] ∨ ∃ b o, A = some ⟨b, o, none⟩ ∧ SixAt w b o xs
theorem SixAt.keep {w w' : World} {b o : Nat} {xs : List (Nat → Int)} (h : SixAt w b o xs) (hb : Below w.heap.size w w') : SixAt w' b o xs := fun i hi j hj => Hl.cell hb (h i hi j hj)
theorem SixS.keep {w w' : World} {A : Option Addr} {xs : List (Nat → Int)} (h : SixS w A xs) (hb : Below w.heap.size w w') : SixS w' A xs := by
  rcases h with h | ⟨b, o, e, h⟩
  · exact .inl h
  · exact .inr ⟨b, o, e, h.keep hb⟩
theorem run_load_six (w : World) (b o : Nat) (x : Nat → Int) (h : ∀ j, j < 6 → w.cell? ⟨b, o + j, none⟩ = some (.int .i64 (x j))) : (loadVar 37 ⟨b, o, none⟩).run Try.prog w = .ok (.agg (cells6 x)) w := by
  have hl : (loadCells ⟨b, o, none⟩ 6).run Try.prog w = .ok (cells6 x) w :=
    run_loadCells_list (P := Try.prog) w ⟨b, o, none⟩ [.int .i64 (x 0), .int .i64 (x 1), .int .i64 (x 2), .int .i64 (x 3), .int .i64 (x 4), .int .i64 (x 5)] (fun j y hy => by
      have hadd : (⟨b, o, none⟩ : Addr).add j = ⟨b, o + j, none⟩ := by unfold Addr.add; split <;> simp_all
      rw [hadd]
      rcases j with _ | _ | _ | _ | _ | _ | j
      · cases hy; exact h 0 (by omega)
      · cases hy; exact h 1 (by omega)
      · cases hy; exact h 2 (by omega)
      · cases hy; exact h 3 (by omega)
      · cases hy; exact h 4 (by omega)
      · cases hy; exact h 5 (by omega)
      · simp at hy)
  have hagg : (isAgg 37).run Try.prog w = .ok true w := Try.isAgg37 w
  have hsz : (sizeOf 37).run Try.prog w = .ok 6 w := Try.sizeOf37 w
  unfold loadVar
  simp only [Sem.run_bind, hagg, hsz, Result.andThen_ok, if_true, hl, Sem.run_pure]
theorem wpList_load_six {ops : Array Oper} {rest : List Oper} {o : Oper} {a : Act} {w : World} {Q : Exit → Act → World → Prop} (hgd : o.guard = none) (x : Operand) (ho : o.op = .load 37 x)
    (b k : Nat) (hx : a.eval x = .pointer (some ⟨b, k, none⟩)) (v : Nat → Int) (hg : ∀ j, j < 6 → w.cell? ⟨b, k + j, none⟩ = some (.int .i64 (v j)))
    (h : wpList Try.prog ops Q rest (a.put o.dst (.agg (cells6 v))) w) : wpList Try.prog ops Q (o :: rest) a w := by
  refine wpList_plain hgd fun K hK => ?_
  have hl := run_load_six w b k v hg
  generalize cells6 v = c at *
  unfold Oper.wp execOp
  simp only [ho, hx, Instr.loadAt, Instr.sureAddr, Sem.run_bind, Sem.run_pure, Result.andThen_ok, hl]
  exact hK _ _ h
/-- What one step adds. -/
def addF (xs : List (Nat → Int)) (raw : List Fa) (i : Nat) : List Fa := makeF (xs.getD i zero6) :: if i < raw.length ∧ i < 10 then [raw.getD i zeroA] else []
def factsL (xs : List (Nat → Int)) (raw : List Fa) (k : Nat) : List Fa := (List.range k).flatMap (addF xs raw)
def factsF (xs : List (Nat → Int)) (raw : List Fa) : List Fa := factsL xs raw (min xs.length 50)
theorem factsL_succ (xs : List (Nat → Int)) (raw : List Fa) (k : Nat) : factsL xs raw (k + 1) = factsL xs raw k ++ addF xs raw k := by
  unfold factsL; rw [List.range_succ, List.flatMap_append]; simp
theorem factsL_len (xs : List (Nat → Int)) (raw : List Fa) (k : Nat) : (factsL xs raw k).length ≤ 2 * k := by
  induction k with
  | zero => simp [factsL]
  | succ k ih =>
    rw [factsL_succ, List.length_append]
    unfold addF
    split <;> simp <;> omega
set_option maxRecDepth 100000 in
set_option maxHeartbeats 8000000 in
theorem facts_calls (A : Option Addr) (xs : List (Nat → Int)) (cap : Nat) (B : Option Addr) (raw : List Fa) (cap2 : Nat) (w : World) (hA : SixS w A xs) (hx : ∀ x ∈ xs, In6 x) (hl : xs.length ≤ 9223372036854775807) (hB : FactsS w B raw) (_hl2 : raw.length ≤ 9223372036854775807) :
    Calls Try.prog 8 #[.slice A xs.length cap, .slice B raw.length cap2] w fun e W' => ∃ v, e = .returned v ∧ RowA W' w.heap.size v (factsF xs raw) ∧ Below w.heap.size w W' := by
  have HA := Lib.hid hA
  have HB := Lib.hid hB
  have HX := Lib.hid hx
  clear hA hB hx
  go_enter Try.func8, Try.ntmps8
  go_upto_region 3 with (fail)
  go_loopw [6, 5] (fun iv hv wr => ∃ i : Nat, i ≤ xs.length ∧ i ≤ 50 ∧ iv = .int .i64 i ∧ Hid (RowA wr w.heap.size hv (factsL xs raw i)) ∧ Hid (Below w.heap.size w wr)) (fun iv _ _ => 50 - (intOf iv).toNat)
  case atStart => exact ⟨0, by omega, by omega, rfl, Lib.hid (RowA.nil _ _), Lib.hid (Below.refl _ _)⟩
  case round =>
    rename_i hv0
    obtain ⟨i, hi, hi50, rfl, HR, HW⟩ := hrel
    have i0 : (0 : Int) ≤ (i : Int) := by omega
    by_cases hlt : i < xs.length ∧ i < 50
    rotate_left
    · have hfin : factsL xs raw i = factsF xs raw := by unfold factsF; rw [show min xs.length 50 = i by omega]
      rw [hfin] at HR
      clear hfin
      have hway : ¬ ((i : Int) < (xs.length : Int)) ∨ ((i : Int) < (xs.length : Int) ∧ ¬ ((i : Int) < 50)) := by omega
      clear hlt hi hi50
      rcases hway with h1 | ⟨h1, h2⟩
      · go_wp2_with fail
        go_ret
        exact ⟨_, rfl, HR.out, HW.out⟩
      · go_wp2_with fail
        go_ret
        exact ⟨_, rfl, HR.out, HW.out⟩
    · obtain ⟨hlt, hlt50⟩ := hlt
      have i1 : (i : Int) < (xs.length : Int) := by omega
      have i2 : (i : Int) < 50 := by omega
      rcases HA.out with hz | ⟨b, o, rfl, hst⟩
      · rw [hz] at hlt; exact absurd hlt (by simp)
      have HAT := Lib.hid (fun j (hj : j < 6) => Hl.cell HW.out (hst i hlt j hj))
      have HX6 := HX.out _ (show xs.getD i zero6 ∈ xs by rw [List.getD_eq_getElem?_getD, List.getElem?_eq_getElem hlt]; exact List.getElem_mem hlt)
      have HLN := factsL_len xs raw i
      have HSU := Lib.hid (factsL_succ xs raw i)
      have HAD := Lib.hid (show addF xs raw i = makeF (xs.getD i zero6) :: if i < raw.length ∧ i < 10 then [raw.getD i zeroA] else [] from rfl)
      have HMK := Lib.hid (fun W => Make_calls (xs.getD i zero6) W HX6)
      have hcons : Hid (i < 50) := Lib.hid hlt50
      clear hst HX6
      generalize xs.getD i zero6 = x at *
      generalize factsL xs raw i = L at *
      obtain ⟨mf, hmf⟩ : ∃ mf, makeF x = mf := ⟨_, rfl⟩
      rw [hmf] at HMK HAD
      clear hmf
      obtain ⟨v, t⟩ := mf
      go_wp2_with (refine wpList_load_six rfl _ rfl _ _ rfl x HAT.out ?_)
      refine (HMK.out _).mono ?_
      rintro e W1 ⟨rfl, b1⟩
      have hb1 := build_fact v t W1
      have B1 := HW.out.trans (Below.mono b1 HW.out.size)
      have b2 : Below W1.heap.size W1 (W1.alloc (.cells (factC v t) 29)) := (Below.refl _ W1).alloc (Nat.le_refl _) _
      have B2 := B1.trans (Below.mono b2 B1.size)
      obtain ⟨v1, W3, happ, hrow, hgr⟩ := appendA w.heap.size (W1.alloc (.cells (factC v t) 29)) ((HR.out.below b1).below b2) (v, t) W1.heap.size (heap_new W1 _) B2.size (by omega) 23
      have B3 := Lib.hid (B2.grown hgr B2.size (fun j e => RowA.lt HR.out j e))
      have R3 := Lib.hid hrow
      have hln2 : (L ++ [(v, t)]).length ≤ 101 := by rw [List.length_append]; simp; omega
      clear b1 b2 B1 B2 hgr hrow HR HW HAT HMK
      by_cases hrw : i < raw.length ∧ i < 10
      · rw [if_pos hrw] at HAD
        obtain ⟨r1, r2⟩ := hrw
        have r1' : (i : Int) < (raw.length : Int) := by omega
        have r2' : (i : Int) < 10 := by omega
        rcases HB.out with hz | ⟨bb, ob, rfl, hsb⟩
        · rw [hz] at r1; exact absurd r1 (by simp)
        have HBT := Lib.hid (hsb.keep B3.out i r1)
        have HFIN := Lib.hid (show L ++ [(v, t)] ++ [raw.getD i zeroA] = factsL xs raw (i + 1) by rw [HSU.out, HAD.out]; simp)
        clear hsb HAD HSU
        generalize raw.getD i zeroA = f2 at *
        obtain ⟨u, s⟩ := f2
        have hb3 := build_fact u s W3
        have b4 : Below W3.heap.size W3 (W3.alloc (.cells (factC u s) 29)) := (Below.refl _ W3).alloc (Nat.le_refl _) _
        have B4 := B3.out.trans (Below.mono b4 B3.out.size)
        obtain ⟨v2, W5, happ2, hrow2, hgr2⟩ := appendA w.heap.size (W3.alloc (.cells (factC u s) 29)) (R3.out.below b4) (u, s) W3.heap.size (heap_new W3 _) B4.size (by omega) 23
        have B5 := Lib.hid (B4.grown hgr2 B4.size (fun j e => RowA.lt R3.out j e))
        have R5 := Lib.hid hrow2
        clear b4 B4 hgr2 hrow2 B3 R3
        go_wp2_with (first
          | (refine wpList_build1 rfl 23 (.tmp 22) rfl (.agg (factC v t)) rfl hb1 ?_)
          | (refine wpList_load_at rfl _ rfl _ _ rfl u s HBT.out ?_)
          | (refine wpList_build1 rfl 23 (.tmp 37) rfl (.agg (factC u s)) rfl hb3 ?_)
          | (at_builtin; refine wpList_append_run rfl _ _ _ rfl _ _ rfl rfl happ ?_)
          | (at_builtin; refine wpList_append_run rfl _ _ _ rfl _ _ rfl rfl happ2 ?_))
        go_roundw
        case rel => exact ⟨i + 1, by omega, by omega, by go_num, by rw [← HFIN.out]; exact R5, B5⟩
        case measure => simp [intOf]; omega
      · rw [if_neg hrw] at HAD
        have HFIN := Lib.hid (show L ++ [(v, t)] = factsL xs raw (i + 1) by rw [HSU.out, HAD.out])
        have hway : ¬ ((i : Int) < (raw.length : Int)) ∨ ((i : Int) < (raw.length : Int) ∧ ¬ ((i : Int) < 10)) := by omega
        clear hrw HAD HSU
        rcases hway with r1 | ⟨r1, r2⟩
        all_goals
          go_wp2_with (first
            | (refine wpList_build1 rfl 23 (.tmp 22) rfl (.agg (factC v t)) rfl hb1 ?_)
            | (at_builtin; refine wpList_append_run rfl _ _ _ rfl _ _ rfl rfl happ ?_))
          go_roundw
          case rel => exact ⟨i + 1, by omega, by omega, by go_num, by rw [← HFIN.out]; exact R3, B3⟩
          case measure => simp [intOf]; omega
end Go.Proofs.Ytngkfopdlkddnaa
