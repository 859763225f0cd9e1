/- Contracts of base's look-ups: inEffect (what is in effect), first and their closures. -/
import Derived.Test.YtngkfopdlkddnaaK22
import Derived.Test.YtngkfopdlkddnaaK17
namespace Go.Proofs.Ytngkfopdlkddnaa
open Go Go.RowKit Go.Maps
theorem results_fact_tmp {fn : Func} {p q : Tmp} (h : fn.results = #[.cell p 29, .tmp q]) (tmps : Array Value) (w : World) (g : Nat) (v : Nat → Int) (t : ByteArray) (x : Value)
    (hp : tmps.getD p undef = .pointer (some ⟨g, 0, none⟩)) (hg : w.heap[g]? = some (.cells (factC v t) 29 (0, 0))) (hq : tmps.getD q undef = x) : (results fn tmps).run Try.prog w = .ok (.tuple #[.agg (factC v t), x]) w := by
  have hq' : tmps[q]?.getD undef = x := by simpa using hq
  have hp' : tmps[p]?.getD undef = .pointer (some ⟨g, 0, none⟩) := by simpa using hp
  have hl := run_loadVar_row w g 29 29 (factC v t) (0, 0) _ hg Try.underlying29 rfl (hiC v t)
  generalize factC v t = c at *
  simp [results, h, hp', asAddr, hl, hq']
/-- One more fact. -/
def stepEf (ab : Fa → Bool) (p : Int) (acc : Option Fa) (f : Fa) : Option Fa :=
  if ab f = true ∧ f.1 11 ≤ p ∧ (match acc with | none => true | some g => decide (g.1 11 < f.1 11)) = true then some f else acc
/-- The fact that is in effect at p. -/
def efF (ab : Fa → Bool) (p : Int) (l : List Fa) : Option Fa := l.foldl (stepEf ab p) none
theorem efF_succ (ab : Fa → Bool) (p : Int) (l : List Fa) (k : Nat) (h : k < l.length) : efF ab p (l.take (k + 1)) = stepEf ab p (efF ab p (l.take k)) (l.getD k zeroA) := by
  unfold efF
  rw [List.take_succ_eq_append_getElem h, List.foldl_append, List.getD_eq_getElem?_getD, List.getElem?_eq_getElem h]
  rfl
def outF (o : Option Fa) : Value := .tuple #[valF (o.getD zeroA), .bool o.isSome]
/-- A closure that gives a number of a fact. -/
def Gives (g : FuncId) (h : Fa → Int) : Prop := ∀ (v : Nat → Int) (t : ByteArray) (W : World), Calls Try.prog g #[.agg (factC v t)] W fun e W' => e = .returned (.int .i64 (h (v, t))) ∧ Below W.heap.size W W'

set_option maxRecDepth 100000 in
theorem gives_9 : Gives 37 (fun f => f.1 9) := by
  intro v t w
  go_enter Try.func37, Try.ntmps37
  go_upto_region 1 with (fail)
  obtain ⟨W0, hW0, f0, b0⟩ := one_row w (factC v t) 29
  rw [hW0]
  clear hW0
  have c0 := (row18 f0).2.2.2.2.2.2.2.2.2.1
  have B0 := Lib.hid b0
  clear f0 b0
  go_wp2_with fail
  go_ret
  exact ⟨rfl, B0.out⟩
set_option maxRecDepth 100000 in
theorem gives_8 : Gives 40 (fun f => f.1 8) := by
  intro v t w
  go_enter Try.func40, Try.ntmps40
  go_upto_region 1 with (fail)
  obtain ⟨W0, hW0, f0, b0⟩ := one_row w (factC v t) 29
  rw [hW0]
  clear hW0
  have c0 := (row18 f0).2.2.2.2.2.2.2.2.1
  have B0 := Lib.hid b0
  clear f0 b0
  go_wp2_with fail
  go_ret
  exact ⟨rfl, B0.out⟩
set_option maxRecDepth 100000 in
set_option maxHeartbeats 8000000 in
theorem inEffect_calls_9 (n pp : Int) (A : Option Addr) (l : List Fa) (cap : Nat) (w : World) (hA : FactsS w A l) (hl : l.length ≤ 100000) (htx : ∀ f ∈ l, f.2.size ≤ 281474976710656) :
    Calls Try.prog 36 #[.slice A l.length cap, .func (.func 37) #[] #[], .int .i64 n, .int .i64 pp] w fun e W' => e = .returned (outF (efF (fun f => f.1 9 == n) pp l)) ∧ Below w.heap.size w W' := by
  have HA := Lib.hid hA
  have HG := Lib.hid (fun v t W => gives_9 v t W)
  have HTX := Lib.hid htx
  clear hA htx
  go_enter Try.func36, Try.ntmps36
  go_upto_region 1 with (fail)
  obtain ⟨W0, hW0, f0, b0⟩ := one_row w (factC (fun _ => 0) ⟨#[]⟩) 29
  rw [hW0]
  clear hW0
  have F0 := Lib.hid f0
  have B0 := Lib.hid b0
  have hz0 : w.heap.size < W0.heap.size := (Array.getElem?_eq_some_iff.1 f0).1
  clear f0 b0
  go_upto_region 3 with (fail)
  go_loopw [15, 10] (fun iv lv wr => ∃ (k : Nat), k ≤ l.length ∧ iv = .int .i64 k ∧ Hid (Below W0.heap.size W0 wr) ∧ ((lv = .int .i64 (-1) ∧ Hid (efF (fun f => f.1 9 == n) pp (l.take k) = none)) ∨ ∃ j : Nat, j < k ∧ lv = .int .i64 j ∧ Hid (efF (fun f => f.1 9 == n) pp (l.take k) = some (l.getD j zeroA)))) (fun iv _ _ => l.length - (intOf iv).toNat)
  case atStart => exact ⟨0, by omega, rfl, Lib.hid (Below.refl _ _), .inl ⟨rfl, Lib.hid rfl⟩⟩
  case round =>
    obtain ⟨k, hk, rfl, B, hlat⟩ := hrel
    have k0 : (0 : Int) ≤ (k : Int) := by omega
    by_cases hlt : k < l.length
    rotate_left
    · obtain rfl : k = l.length := by omega
      have k1 : (l.length : Int) ≤ (l.length : Int) := by omega
      clear hlt hk
      rw [List.take_of_length_le (Nat.le_refl _)] at hlat
      have F1 := Lib.hid ((B.out.block _ hz0).trans F0.out)
      have B1 := Lib.hid (B0.out.trans (Below.mono B.out (by omega)))
      rcases hlat with ⟨rfl, E⟩ | ⟨j, hj, rfl, E⟩
      · have hone := factC_one (fun _ => 0) ⟨#[]⟩
        go_wp2_with (refine wpList_store_row rfl 29 _ _ rfl w.heap.size (factC (fun _ => 0) ⟨#[]⟩) rfl rfl 29 _ F1.out (hiC _ _) rfl hone ?_)
        refine bodyPost_ret (v := .tuple #[.agg (factC (fun _ => 0) ⟨#[]⟩), .bool false]) ?_ rfl ?_
        · exact results_fact_tmp rfl _ _ w.heap.size _ _ _ rfl (setRow_heap _ w.heap.size _ _ 29 (0, 0) F1.out) rfl
        · exact ⟨by rw [E.out]; rfl, below_setRow' B1.out _ _ (by omega)⟩
      · have j0 : (0 : Int) ≤ (j : Int) := by omega
        have j1 : (j : Int) < (l.length : Int) := by omega
        rcases HA.out with hz | ⟨b, o, rfl, hst⟩
        · rw [hz] at hj; exact absurd hj (by simp)
        have HAT := Lib.hid (hst.keep B1.out j hj)
        have HSZ := Lib.hid (HTX.out _ (show l.getD j zeroA ∈ l by rw [List.getD_eq_getElem?_getD, List.getElem?_eq_getElem hj]; exact List.getElem_mem hj))
        clear hst B
        generalize l.getD j zeroA = f at *
        obtain ⟨v, t⟩ := f
        have HAP := Lib.hid (fun W => apart_calls v t W HSZ.out)
        go_wp2_with (refine wpList_load_at rfl _ rfl _ _ rfl v t HAT.out ?_)
        refine (HAP.out _).mono ?_
        rintro e W2 ⟨rfl, b2⟩
        have F2 := Lib.hid (Hl.row b2 F1.out)
        have B2 := Lib.hid (B1.out.trans (Below.mono b2 B1.out.size))
        clear b2 F1 B1 HAT
        have hone := factC_one v t
        go_wp2_with (refine wpList_store_row rfl 29 _ _ rfl w.heap.size (factC v t) rfl rfl 29 _ F2.out (hiC _ _) rfl hone ?_)
        refine bodyPost_ret (v := .tuple #[.agg (factC v t), .bool true]) ?_ rfl ?_
        · exact results_fact_tmp rfl _ _ w.heap.size _ _ _ rfl (setRow_heap _ w.heap.size _ _ 29 (0, 0) F2.out) rfl
        · exact ⟨by rw [E.out]; rfl, below_setRow' B2.out _ _ (by omega)⟩
    · have k1 : (k : Int) < (l.length : Int) := by omega
      have BW := B0.out.trans (Below.mono B.out (Nat.le_of_lt hz0))
      rcases HA.out with hz | ⟨b, o, rfl, hst⟩
      · rw [hz] at hlt; exact absurd hlt (by simp)
      have HST := Lib.hid (hst.keep BW)
      have HAT := Lib.hid (HST.out k hlt)
      have HE := Lib.hid (efF_succ (fun f => f.1 9 == n) pp l k hlt)
      clear hst BW
      generalize hfk : l.getD k zeroA = f at *
      obtain ⟨v, t⟩ := f
      have HFK := Lib.hid hfk
      clear hfk
      have hone := factC_one v t
      go_upto_region 5 with (first | (refine wpList_load_at rfl _ rfl _ _ rfl v t HAT.out ?_) | (refine wpList_store_row rfl 29 _ _ rfl wr.heap.size (factC v t) rfl rfl 29 (factC (fun _ => 0) ⟨#[]⟩) (heap_new wr _) (hiC _ _) rfl hone ?_))
      obtain ⟨W5, hW5, f5, b5⟩ := box_new wr (factC (fun _ => 0) ⟨#[]⟩) (factC v t) 29
      rw [hW5]
      simp only [Act.put]
      have F5 := Lib.hid f5
      have B5 := Lib.hid (B.out.trans (Below.mono b5 B.out.size))
      have S5 := Lib.hid (fun j (hj : j < l.length) => HST.out.keep b5 j hj)
      have c11 := (row18x f5).2.2.2.2.2.2.2.2.2.2.2.1
      clear hW5 f5 b5 HAT hone B HST
      generalize wr.heap.size = fb at *

      cases hab : (v 9 == n) with
      | false =>
        have HAB := Lib.hid hab
        rcases hlat with ⟨rfl, E⟩ | ⟨j, hj, rfl, E⟩
        · refine wp_region_hl W5 (Hl.refl _) (by kernel_rfl) (by kernel_rfl) ?_
          repeat (first
            | go_big_quiet_skip
            | (go_big_quiet_want; refine quiet_load_row _ rfl _ rfl _ _ F5.out ?_; simp only [Act.put, List.setIfInBounds_toArray, List.set_cons_zero, List.set_cons_succ]; go_big_quiet_on)
            | (go_big_quiet_want; go_big_quiet_op; first
              | go_big_quiet_on
              | (apply Exists.intro; (with_reducible refine ⟨fun _ => hl_call (HG.out _ _ _), ?_⟩); go_big_quiet_on)))
          refine wpQuiet_nil ?_
          intro W6 h6
          go_wp2_with fail
          go_roundw
          case rel => exact ⟨k + 1, by omega, by go_num, Lib.hid (B5.out.trans (Below.mono h6 B5.out.size)), .inl ⟨rfl, Lib.hid (by rw [HE.out]; exact (if_neg (fun hh => by have e := hh.1; simp only at e; rw [HAB.out] at e; cases e)).trans E.out)⟩⟩
          case measure => simp [intOf]; omega
        · refine wp_region_hl W5 (Hl.refl _) (by kernel_rfl) (by kernel_rfl) ?_
          repeat (first
            | go_big_quiet_skip
            | (go_big_quiet_want; refine quiet_load_row _ rfl _ rfl _ _ F5.out ?_; simp only [Act.put, List.setIfInBounds_toArray, List.set_cons_zero, List.set_cons_succ]; go_big_quiet_on)
            | (go_big_quiet_want; go_big_quiet_op; first
              | go_big_quiet_on
              | (apply Exists.intro; (with_reducible refine ⟨fun _ => hl_call (HG.out _ _ _), ?_⟩); go_big_quiet_on)))
          refine wpQuiet_nil ?_
          intro W6 h6
          go_wp2_with fail
          go_roundw
          case rel => exact ⟨k + 1, by omega, by go_num, Lib.hid (B5.out.trans (Below.mono h6 B5.out.size)), .inr ⟨j, by omega, rfl, Lib.hid (by rw [HE.out]; exact (if_neg (fun hh => by have e := hh.1; simp only at e; rw [HAB.out] at e; cases e)).trans E.out)⟩⟩
          case measure => simp [intOf]; omega
      | true =>
        have HAB := Lib.hid hab
        by_cases hfp : v 11 ≤ pp
        rotate_left
        · have hd : decide (v 11 ≤ pp) = false := decide_eq_false hfp
          have HFP := Lib.hid hfp
          clear hfp
          rcases hlat with ⟨rfl, E⟩ | ⟨j, hj, rfl, E⟩
          · refine wp_region_hl W5 (Hl.refl _) (by kernel_rfl) (by kernel_rfl) ?_
            repeat (first
              | go_big_quiet_skip
              | (go_big_quiet_want; refine quiet_load_row _ rfl _ rfl _ _ F5.out ?_; simp only [Act.put, List.setIfInBounds_toArray, List.set_cons_zero, List.set_cons_succ]; go_big_quiet_on)
              | (go_big_quiet_want; go_big_quiet_op; first
                | go_big_quiet_on
                | (apply Exists.intro; (with_reducible refine ⟨fun _ => hl_call (HG.out _ _ _), ?_⟩); go_big_quiet_on)))
            refine wpQuiet_nil ?_
            intro W6 h6
            go_wp2_with fail
            go_roundw
            case rel => exact ⟨k + 1, by omega, by go_num, Lib.hid (B5.out.trans (Below.mono h6 B5.out.size)), .inl ⟨rfl, Lib.hid (by rw [HE.out]; exact (if_neg (fun hh => HFP.out hh.2.1)).trans E.out)⟩⟩
            case measure => simp [intOf]; omega
          · refine wp_region_hl W5 (Hl.refl _) (by kernel_rfl) (by kernel_rfl) ?_
            repeat (first
              | go_big_quiet_skip
              | (go_big_quiet_want; refine quiet_load_row _ rfl _ rfl _ _ F5.out ?_; simp only [Act.put, List.setIfInBounds_toArray, List.set_cons_zero, List.set_cons_succ]; go_big_quiet_on)
              | (go_big_quiet_want; go_big_quiet_op; first
                | go_big_quiet_on
                | (apply Exists.intro; (with_reducible refine ⟨fun _ => hl_call (HG.out _ _ _), ?_⟩); go_big_quiet_on)))
            refine wpQuiet_nil ?_
            intro W6 h6
            go_wp2_with fail
            go_roundw
            case rel => exact ⟨k + 1, by omega, by go_num, Lib.hid (B5.out.trans (Below.mono h6 B5.out.size)), .inr ⟨j, by omega, rfl, Lib.hid (by rw [HE.out]; exact (if_neg (fun hh => HFP.out hh.2.1)).trans E.out)⟩⟩
            case measure => simp [intOf]; omega
        · have hd : decide (v 11 ≤ pp) = true := decide_eq_true hfp
          have HFP := Lib.hid hfp
          clear hfp
          rcases hlat with ⟨rfl, E⟩ | ⟨j, hj, rfl, E⟩
          · refine wp_region_hl W5 (Hl.refl _) (by kernel_rfl) (by kernel_rfl) ?_
            repeat (first
              | go_big_quiet_skip
              | (go_big_quiet_want; refine quiet_load_row _ rfl _ rfl _ _ F5.out ?_; simp only [Act.put, List.setIfInBounds_toArray, List.set_cons_zero, List.set_cons_succ]; go_big_quiet_on)
              | (go_big_quiet_want; go_big_quiet_op; first
                | go_big_quiet_on
                | (apply Exists.intro; (with_reducible refine ⟨fun _ => hl_call (HG.out _ _ _), ?_⟩); go_big_quiet_on)))
            refine wpQuiet_nil ?_
            intro W6 h6
            go_wp2_with fail
            go_roundw
            case rel => exact ⟨k + 1, by omega, by go_num, Lib.hid (B5.out.trans (Below.mono h6 B5.out.size)), .inr ⟨k, by omega, by go_num, Lib.hid (by rw [HE.out, E.out, HFK.out]; exact if_pos ⟨HAB.out, HFP.out, rfl⟩)⟩⟩
            case measure => simp [intOf]; omega
          · have j0 : (0 : Int) ≤ (j : Int) := by omega
            have j1 : (j : Int) < (l.length : Int) := by omega
            have jn : decide ((j : Int) < 0) = false := decide_eq_false (by omega)
            have hjl : j < l.length := by omega
            have cj : ∀ x : Wl W5, x.1.cell? ⟨b, o + j * 18 + 11, none⟩ = some (.int .i64 ((l.getD j zeroA).1 11)) := fun x => x.2.cell (S5.out j hjl 11 _ rfl)
            generalize hgj : (l.getD j zeroA).1 11 = fj at *
            have HGJ := Lib.hid hgj
            clear hgj
            by_cases hcmp : fj < v 11
            · have hd2 : decide (fj < v 11) = true := decide_eq_true hcmp
              have HCM := Lib.hid hcmp
              clear hcmp
              refine wp_region_hl W5 (Hl.refl _) (by kernel_rfl) (by kernel_rfl) ?_
              repeat (first
                | go_big_quiet_skip
                | (go_big_quiet_want; refine quiet_load_row _ rfl _ rfl _ _ F5.out ?_; simp only [Act.put, List.setIfInBounds_toArray, List.set_cons_zero, List.set_cons_succ]; go_big_quiet_on)
                | (go_big_quiet_want; go_big_quiet_op; first
                  | go_big_quiet_on
                  | (apply Exists.intro; (with_reducible refine ⟨fun _ => hl_call (HG.out _ _ _), ?_⟩); go_big_quiet_on)))
              refine wpQuiet_nil ?_
              intro W6 h6
              go_wp2_with fail
              go_roundw
              case rel => exact ⟨k + 1, by omega, by go_num, Lib.hid (B5.out.trans (Below.mono h6 B5.out.size)), .inr ⟨k, by omega, by go_num, Lib.hid (by rw [HE.out, E.out, HFK.out]; exact if_pos ⟨HAB.out, HFP.out, by show decide ((l.getD j zeroA).1 11 < v 11) = true; rw [HGJ.out]; exact decide_eq_true HCM.out⟩)⟩⟩
              case measure => simp [intOf]; omega
            · have hd2 : decide (fj < v 11) = false := decide_eq_false hcmp
              have HCM := Lib.hid hcmp
              clear hcmp
              refine wp_region_hl W5 (Hl.refl _) (by kernel_rfl) (by kernel_rfl) ?_
              repeat (first
                | go_big_quiet_skip
                | (go_big_quiet_want; refine quiet_load_row _ rfl _ rfl _ _ F5.out ?_; simp only [Act.put, List.setIfInBounds_toArray, List.set_cons_zero, List.set_cons_succ]; go_big_quiet_on)
                | (go_big_quiet_want; go_big_quiet_op; first
                  | go_big_quiet_on
                  | (apply Exists.intro; (with_reducible refine ⟨fun _ => hl_call (HG.out _ _ _), ?_⟩); go_big_quiet_on)))
              refine wpQuiet_nil ?_
              intro W6 h6
              go_wp2_with fail
              go_roundw
              case rel => exact ⟨k + 1, by omega, by go_num, Lib.hid (B5.out.trans (Below.mono h6 B5.out.size)), .inr ⟨j, by omega, rfl, Lib.hid (by rw [HE.out, E.out]; exact if_neg (fun hh => by have e := hh.2.2; rw [show (match some (l.getD j zeroA) with | none => true | some g => decide (g.1 11 < v 11)) = decide ((l.getD j zeroA).1 11 < v 11) from rfl, HGJ.out] at e; exact HCM.out (of_decide_eq_true e)))⟩⟩
              case measure => simp [intOf]; omega
set_option maxRecDepth 100000 in
set_option maxHeartbeats 8000000 in
theorem inEffect_calls_8 (n pp : Int) (A : Option Addr) (l : List Fa) (cap : Nat) (w : World) (hA : FactsS w A l) (hl : l.length ≤ 100000) (htx : ∀ f ∈ l, f.2.size ≤ 281474976710656) :
    Calls Try.prog 36 #[.slice A l.length cap, .func (.func 40) #[] #[], .int .i64 n, .int .i64 pp] w fun e W' => e = .returned (outF (efF (fun f => f.1 8 == n) pp l)) ∧ Below w.heap.size w W' := by
  have HA := Lib.hid hA
  have HG := Lib.hid (fun v t W => gives_8 v t W)
  have HTX := Lib.hid htx
  clear hA htx
  go_enter Try.func36, Try.ntmps36
  go_upto_region 1 with (fail)
  obtain ⟨W0, hW0, f0, b0⟩ := one_row w (factC (fun _ => 0) ⟨#[]⟩) 29
  rw [hW0]
  clear hW0
  have F0 := Lib.hid f0
  have B0 := Lib.hid b0
  have hz0 : w.heap.size < W0.heap.size := (Array.getElem?_eq_some_iff.1 f0).1
  clear f0 b0
  go_upto_region 3 with (fail)
  go_loopw [15, 10] (fun iv lv wr => ∃ (k : Nat), k ≤ l.length ∧ iv = .int .i64 k ∧ Hid (Below W0.heap.size W0 wr) ∧ ((lv = .int .i64 (-1) ∧ Hid (efF (fun f => f.1 8 == n) pp (l.take k) = none)) ∨ ∃ j : Nat, j < k ∧ lv = .int .i64 j ∧ Hid (efF (fun f => f.1 8 == n) pp (l.take k) = some (l.getD j zeroA)))) (fun iv _ _ => l.length - (intOf iv).toNat)
  case atStart => exact ⟨0, by omega, rfl, Lib.hid (Below.refl _ _), .inl ⟨rfl, Lib.hid rfl⟩⟩
  case round =>
    obtain ⟨k, hk, rfl, B, hlat⟩ := hrel
    have k0 : (0 : Int) ≤ (k : Int) := by omega
    by_cases hlt : k < l.length
    rotate_left
    · obtain rfl : k = l.length := by omega
      have k1 : (l.length : Int) ≤ (l.length : Int) := by omega
      clear hlt hk
      rw [List.take_of_length_le (Nat.le_refl _)] at hlat
      have F1 := Lib.hid ((B.out.block _ hz0).trans F0.out)
      have B1 := Lib.hid (B0.out.trans (Below.mono B.out (by omega)))
      rcases hlat with ⟨rfl, E⟩ | ⟨j, hj, rfl, E⟩
      · have hone := factC_one (fun _ => 0) ⟨#[]⟩
        go_wp2_with (refine wpList_store_row rfl 29 _ _ rfl w.heap.size (factC (fun _ => 0) ⟨#[]⟩) rfl rfl 29 _ F1.out (hiC _ _) rfl hone ?_)
        refine bodyPost_ret (v := .tuple #[.agg (factC (fun _ => 0) ⟨#[]⟩), .bool false]) ?_ rfl ?_
        · exact results_fact_tmp rfl _ _ w.heap.size _ _ _ rfl (setRow_heap _ w.heap.size _ _ 29 (0, 0) F1.out) rfl
        · exact ⟨by rw [E.out]; rfl, below_setRow' B1.out _ _ (by omega)⟩
      · have j0 : (0 : Int) ≤ (j : Int) := by omega
        have j1 : (j : Int) < (l.length : Int) := by omega
        rcases HA.out with hz | ⟨b, o, rfl, hst⟩
        · rw [hz] at hj; exact absurd hj (by simp)
        have HAT := Lib.hid (hst.keep B1.out j hj)
        have HSZ := Lib.hid (HTX.out _ (show l.getD j zeroA ∈ l by rw [List.getD_eq_getElem?_getD, List.getElem?_eq_getElem hj]; exact List.getElem_mem hj))
        clear hst B
        generalize l.getD j zeroA = f at *
        obtain ⟨v, t⟩ := f
        have HAP := Lib.hid (fun W => apart_calls v t W HSZ.out)
        go_wp2_with (refine wpList_load_at rfl _ rfl _ _ rfl v t HAT.out ?_)
        refine (HAP.out _).mono ?_
        rintro e W2 ⟨rfl, b2⟩
        have F2 := Lib.hid (Hl.row b2 F1.out)
        have B2 := Lib.hid (B1.out.trans (Below.mono b2 B1.out.size))
        clear b2 F1 B1 HAT
        have hone := factC_one v t
        go_wp2_with (refine wpList_store_row rfl 29 _ _ rfl w.heap.size (factC v t) rfl rfl 29 _ F2.out (hiC _ _) rfl hone ?_)
        refine bodyPost_ret (v := .tuple #[.agg (factC v t), .bool true]) ?_ rfl ?_
        · exact results_fact_tmp rfl _ _ w.heap.size _ _ _ rfl (setRow_heap _ w.heap.size _ _ 29 (0, 0) F2.out) rfl
        · exact ⟨by rw [E.out]; rfl, below_setRow' B2.out _ _ (by omega)⟩
    · have k1 : (k : Int) < (l.length : Int) := by omega
      have BW := B0.out.trans (Below.mono B.out (Nat.le_of_lt hz0))
      rcases HA.out with hz | ⟨b, o, rfl, hst⟩
      · rw [hz] at hlt; exact absurd hlt (by simp)
      have HST := Lib.hid (hst.keep BW)
      have HAT := Lib.hid (HST.out k hlt)
      have HE := Lib.hid (efF_succ (fun f => f.1 8 == n) pp l k hlt)
      clear hst BW
      generalize hfk : l.getD k zeroA = f at *
      obtain ⟨v, t⟩ := f
      have HFK := Lib.hid hfk
      clear hfk
      have hone := factC_one v t
      go_upto_region 5 with (first | (refine wpList_load_at rfl _ rfl _ _ rfl v t HAT.out ?_) | (refine wpList_store_row rfl 29 _ _ rfl wr.heap.size (factC v t) rfl rfl 29 (factC (fun _ => 0) ⟨#[]⟩) (heap_new wr _) (hiC _ _) rfl hone ?_))
      obtain ⟨W5, hW5, f5, b5⟩ := box_new wr (factC (fun _ => 0) ⟨#[]⟩) (factC v t) 29
      rw [hW5]
      simp only [Act.put]
      have F5 := Lib.hid f5
      have B5 := Lib.hid (B.out.trans (Below.mono b5 B.out.size))
      have S5 := Lib.hid (fun j (hj : j < l.length) => HST.out.keep b5 j hj)
      have c11 := (row18x f5).2.2.2.2.2.2.2.2.2.2.2.1
      clear hW5 f5 b5 HAT hone B HST
      generalize wr.heap.size = fb at *

      cases hab : (v 8 == n) with
      | false =>
        have HAB := Lib.hid hab
        rcases hlat with ⟨rfl, E⟩ | ⟨j, hj, rfl, E⟩
        · refine wp_region_hl W5 (Hl.refl _) (by kernel_rfl) (by kernel_rfl) ?_
          repeat (first
            | go_big_quiet_skip
            | (go_big_quiet_want; refine quiet_load_row _ rfl _ rfl _ _ F5.out ?_; simp only [Act.put, List.setIfInBounds_toArray, List.set_cons_zero, List.set_cons_succ]; go_big_quiet_on)
            | (go_big_quiet_want; go_big_quiet_op; first
              | go_big_quiet_on
              | (apply Exists.intro; (with_reducible refine ⟨fun _ => hl_call (HG.out _ _ _), ?_⟩); go_big_quiet_on)))
          refine wpQuiet_nil ?_
          intro W6 h6
          go_wp2_with fail
          go_roundw
          case rel => exact ⟨k + 1, by omega, by go_num, Lib.hid (B5.out.trans (Below.mono h6 B5.out.size)), .inl ⟨rfl, Lib.hid (by rw [HE.out]; exact (if_neg (fun hh => by have e := hh.1; simp only at e; rw [HAB.out] at e; cases e)).trans E.out)⟩⟩
          case measure => simp [intOf]; omega
        · refine wp_region_hl W5 (Hl.refl _) (by kernel_rfl) (by kernel_rfl) ?_
          repeat (first
            | go_big_quiet_skip
            | (go_big_quiet_want; refine quiet_load_row _ rfl _ rfl _ _ F5.out ?_; simp only [Act.put, List.setIfInBounds_toArray, List.set_cons_zero, List.set_cons_succ]; go_big_quiet_on)
            | (go_big_quiet_want; go_big_quiet_op; first
              | go_big_quiet_on
              | (apply Exists.intro; (with_reducible refine ⟨fun _ => hl_call (HG.out _ _ _), ?_⟩); go_big_quiet_on)))
          refine wpQuiet_nil ?_
          intro W6 h6
          go_wp2_with fail
          go_roundw
          case rel => exact ⟨k + 1, by omega, by go_num, Lib.hid (B5.out.trans (Below.mono h6 B5.out.size)), .inr ⟨j, by omega, rfl, Lib.hid (by rw [HE.out]; exact (if_neg (fun hh => by have e := hh.1; simp only at e; rw [HAB.out] at e; cases e)).trans E.out)⟩⟩
          case measure => simp [intOf]; omega
      | true =>
        have HAB := Lib.hid hab
        by_cases hfp : v 11 ≤ pp
        rotate_left
        · have hd : decide (v 11 ≤ pp) = false := decide_eq_false hfp
          have HFP := Lib.hid hfp
          clear hfp
          rcases hlat with ⟨rfl, E⟩ | ⟨j, hj, rfl, E⟩
          · refine wp_region_hl W5 (Hl.refl _) (by kernel_rfl) (by kernel_rfl) ?_
            repeat (first
              | go_big_quiet_skip
              | (go_big_quiet_want; refine quiet_load_row _ rfl _ rfl _ _ F5.out ?_; simp only [Act.put, List.setIfInBounds_toArray, List.set_cons_zero, List.set_cons_succ]; go_big_quiet_on)
              | (go_big_quiet_want; go_big_quiet_op; first
                | go_big_quiet_on
                | (apply Exists.intro; (with_reducible refine ⟨fun _ => hl_call (HG.out _ _ _), ?_⟩); go_big_quiet_on)))
            refine wpQuiet_nil ?_
            intro W6 h6
            go_wp2_with fail
            go_roundw
            case rel => exact ⟨k + 1, by omega, by go_num, Lib.hid (B5.out.trans (Below.mono h6 B5.out.size)), .inl ⟨rfl, Lib.hid (by rw [HE.out]; exact (if_neg (fun hh => HFP.out hh.2.1)).trans E.out)⟩⟩
            case measure => simp [intOf]; omega
          · refine wp_region_hl W5 (Hl.refl _) (by kernel_rfl) (by kernel_rfl) ?_
            repeat (first
              | go_big_quiet_skip
              | (go_big_quiet_want; refine quiet_load_row _ rfl _ rfl _ _ F5.out ?_; simp only [Act.put, List.setIfInBounds_toArray, List.set_cons_zero, List.set_cons_succ]; go_big_quiet_on)
              | (go_big_quiet_want; go_big_quiet_op; first
                | go_big_quiet_on
                | (apply Exists.intro; (with_reducible refine ⟨fun _ => hl_call (HG.out _ _ _), ?_⟩); go_big_quiet_on)))
            refine wpQuiet_nil ?_
            intro W6 h6
            go_wp2_with fail
            go_roundw
            case rel => exact ⟨k + 1, by omega, by go_num, Lib.hid (B5.out.trans (Below.mono h6 B5.out.size)), .inr ⟨j, by omega, rfl, Lib.hid (by rw [HE.out]; exact (if_neg (fun hh => HFP.out hh.2.1)).trans E.out)⟩⟩
            case measure => simp [intOf]; omega
        · have hd : decide (v 11 ≤ pp) = true := decide_eq_true hfp
          have HFP := Lib.hid hfp
          clear hfp
          rcases hlat with ⟨rfl, E⟩ | ⟨j, hj, rfl, E⟩
          · refine wp_region_hl W5 (Hl.refl _) (by kernel_rfl) (by kernel_rfl) ?_
            repeat (first
              | go_big_quiet_skip
              | (go_big_quiet_want; refine quiet_load_row _ rfl _ rfl _ _ F5.out ?_; simp only [Act.put, List.setIfInBounds_toArray, List.set_cons_zero, List.set_cons_succ]; go_big_quiet_on)
              | (go_big_quiet_want; go_big_quiet_op; first
                | go_big_quiet_on
                | (apply Exists.intro; (with_reducible refine ⟨fun _ => hl_call (HG.out _ _ _), ?_⟩); go_big_quiet_on)))
            refine wpQuiet_nil ?_
            intro W6 h6
            go_wp2_with fail
            go_roundw
            case rel => exact ⟨k + 1, by omega, by go_num, Lib.hid (B5.out.trans (Below.mono h6 B5.out.size)), .inr ⟨k, by omega, by go_num, Lib.hid (by rw [HE.out, E.out, HFK.out]; exact if_pos ⟨HAB.out, HFP.out, rfl⟩)⟩⟩
            case measure => simp [intOf]; omega
          · have j0 : (0 : Int) ≤ (j : Int) := by omega
            have j1 : (j : Int) < (l.length : Int) := by omega
            have jn : decide ((j : Int) < 0) = false := decide_eq_false (by omega)
            have hjl : j < l.length := by omega
            have cj : ∀ x : Wl W5, x.1.cell? ⟨b, o + j * 18 + 11, none⟩ = some (.int .i64 ((l.getD j zeroA).1 11)) := fun x => x.2.cell (S5.out j hjl 11 _ rfl)
            generalize hgj : (l.getD j zeroA).1 11 = fj at *
            have HGJ := Lib.hid hgj
            clear hgj
            by_cases hcmp : fj < v 11
            · have hd2 : decide (fj < v 11) = true := decide_eq_true hcmp
              have HCM := Lib.hid hcmp
              clear hcmp
              refine wp_region_hl W5 (Hl.refl _) (by kernel_rfl) (by kernel_rfl) ?_
              repeat (first
                | go_big_quiet_skip
                | (go_big_quiet_want; refine quiet_load_row _ rfl _ rfl _ _ F5.out ?_; simp only [Act.put, List.setIfInBounds_toArray, List.set_cons_zero, List.set_cons_succ]; go_big_quiet_on)
                | (go_big_quiet_want; go_big_quiet_op; first
                  | go_big_quiet_on
                  | (apply Exists.intro; (with_reducible refine ⟨fun _ => hl_call (HG.out _ _ _), ?_⟩); go_big_quiet_on)))
              refine wpQuiet_nil ?_
              intro W6 h6
              go_wp2_with fail
              go_roundw
              case rel => exact ⟨k + 1, by omega, by go_num, Lib.hid (B5.out.trans (Below.mono h6 B5.out.size)), .inr ⟨k, by omega, by go_num, Lib.hid (by rw [HE.out, E.out, HFK.out]; exact if_pos ⟨HAB.out, HFP.out, by show decide ((l.getD j zeroA).1 11 < v 11) = true; rw [HGJ.out]; exact decide_eq_true HCM.out⟩)⟩⟩
              case measure => simp [intOf]; omega
            · have hd2 : decide (fj < v 11) = false := decide_eq_false hcmp
              have HCM := Lib.hid hcmp
              clear hcmp
              refine wp_region_hl W5 (Hl.refl _) (by kernel_rfl) (by kernel_rfl) ?_
              repeat (first
                | go_big_quiet_skip
                | (go_big_quiet_want; refine quiet_load_row _ rfl _ rfl _ _ F5.out ?_; simp only [Act.put, List.setIfInBounds_toArray, List.set_cons_zero, List.set_cons_succ]; go_big_quiet_on)
                | (go_big_quiet_want; go_big_quiet_op; first
                  | go_big_quiet_on
                  | (apply Exists.intro; (with_reducible refine ⟨fun _ => hl_call (HG.out _ _ _), ?_⟩); go_big_quiet_on)))
              refine wpQuiet_nil ?_
              intro W6 h6
              go_wp2_with fail
              go_roundw
              case rel => exact ⟨k + 1, by omega, by go_num, Lib.hid (B5.out.trans (Below.mono h6 B5.out.size)), .inr ⟨j, by omega, rfl, Lib.hid (by rw [HE.out, E.out]; exact if_neg (fun hh => by have e := hh.2.2; rw [show (match some (l.getD j zeroA) with | none => true | some g => decide (g.1 11 < v 11)) = decide ((l.getD j zeroA).1 11 < v 11) from rfl, HGJ.out] at e; exact HCM.out (of_decide_eq_true e)))⟩⟩
              case measure => simp [intOf]; omega
end Go.Proofs.Ytngkfopdlkddnaa
