/- The contracts of the reference's sets: place, Has and Get. -/
import Derived.Test.YtnndnjnpkjpkpaaGreatDoorRsp
namespace Go.Proofs.YtnndnjnpkjpkpaaGreatDoor
open Go Go.RowKit Go.Maps
theorem half_le {a b : Nat} (h : a < b) : a ≤ (a + b) / 2 ∧ (a + b) / 2 < b := by omega
theorem half_int (a b : Nat) : (((a : Int) + (b : Int)) / 2) = (((a + b) / 2 : Nat) : Int) := by omega
set_option maxRecDepth 100000 in
theorem place_calls (p : Nat) (v : Value) (l : List El) (id : ByteArray) (w : World) (hS : RSetAt w p v l) (hA : Asc (esR l)) (hn : l.length ≤ 1000000) :
    Calls Tryz.prog 42 #[.pointer (some ⟨p, 0, none⟩), .string id] w fun e W' => (∃ m : Nat, e = .returned (.int .i64 m) ∧ PosP l id.data.toList m) ∧ w = W' := by
  obtain ⟨A, cap, rfl, hcap, hL⟩ := hS.reads
  have hc := hS.cell
  have HA := Lib.hid hA
  obtain ⟨k, rfl⟩ : ∃ k : Bs, id = ⟨k.toArray⟩ := ⟨id.data.toList, (mk_eta id).symm⟩
  have hd : (⟨k.toArray⟩ : ByteArray).data.toList = k := by simp
  rw [hd]
  clear hS hA hd
  go_enter Tryz.func42, Tryz.ntmps42
  go_wp2_with fail
  go_loop [5, 6] (fun lv hv => ∃ a b : Nat, lv = .int .i64 a ∧ hv = .int .i64 b ∧ a ≤ b ∧ b ≤ l.length ∧ Hid (∀ i, i < a → Op.bytesLess (l.getD i zeroE).1 k = true) ∧ Hid (∀ i, b ≤ i → i < l.length → Op.bytesLess (l.getD i zeroE).1 k = false)) (fun lv hv => (intOf hv).toNat - (intOf lv).toNat)
  case atStart => exact ⟨0, l.length, rfl, rfl, by omega, by omega, Lib.hid (fun i hi => absurd hi (Nat.not_lt_zero i)), Lib.hid (fun i h1 h2 => absurd h2 (by omega))⟩
  case round =>
    obtain ⟨a, b, rfl, rfl, hab, hb, H1, H2⟩ := hrel
    by_cases hlt : a < b
    · have k1 : (a : Int) < (b : Int) := by omega
      obtain ⟨hm1, hm2⟩ := half_le hlt
      have hq := half_int a b
      have hw1 : IntKind.i64.wrap ((a : Int) + (b : Int)) = (a : Int) + (b : Int) := IntWalk.i64_in _ (by omega)
      generalize (a + b) / 2 = m at *
      have m0 : (0 : Int) ≤ (m : Int) := by omega
      have hml : m < l.length := by omega
      have m1 : (m : Int) < (l.length : Int) := by omega
      rcases hL with hz | ⟨g, rfl, hat⟩
      · rw [hz] at hml; exact absurd hml (by simp)
      have c1 := hat.id hml
      have Hlo := Lib.hid (fun h => pos_less HA.out hml (k := k) h)
      have Hhi := Lib.hid (fun h => pos_geq HA.out (m := m) (k := k) h)
      clear hat
      generalize (l.getD m zeroE).1 = x at *
      cases hbl : Op.bytesLess x k with
      | true =>
        go_wp2_with fail
        go_round
        case rel => exact ⟨m + 1, b, by go_num, rfl, by omega, hb, Lib.hid (Hlo.out hbl), H2⟩
        case measure => simp [intOf]; omega
      | false =>
        go_wp2_with fail
        go_round
        case rel => exact ⟨a, m, rfl, by rw [hq], hm1, by omega, H1, Lib.hid (Hhi.out hbl)⟩
        case measure => simp [intOf]; omega
    · obtain rfl : a = b := by omega
      have k1 : (a : Int) ≤ (a : Int) := by omega
      go_wp2_with fail
      go_ret
      exact ⟨⟨a, rfl, hb, H1.out, H2.out⟩, rfl⟩
set_option maxRecDepth 100000 in
theorem rHas_calls (p : Nat) (v : Value) (l : List El) (id : ByteArray) (w : World) (hS : RSetAt w p v l) (hA : Asc (esR l)) (hn : l.length ≤ 1000000) :
    Calls Tryz.prog 34 #[.pointer (some ⟨p, 0, none⟩), .string id] w fun e W' => e = .returned (.bool (hasE (esR l) id.data.toList)) ∧ w = W' := by
  have HP := Lib.hid (place_calls p v l id w hS hA hn)
  obtain ⟨A, cap, rfl, hcap, hL⟩ := hS.reads
  have hc := hS.cell
  have HA := Lib.hid hA
  obtain ⟨k, rfl⟩ : ∃ k : Bs, id = ⟨k.toArray⟩ := ⟨id.data.toList, (mk_eta id).symm⟩
  have hd : (⟨k.toArray⟩ : ByteArray).data.toList = k := by simp
  rw [hd] at HP ⊢
  clear hS hA hd
  go_enter Tryz.func34, Tryz.ntmps34
  go_wp2_with fail
  refine HP.out.mono ?_
  rintro e W1 ⟨⟨m, rfl, hP⟩, rfl⟩
  have HPP := Lib.hid hP
  have hml := hP.1
  clear hP HP
  have m0 : (0 : Int) ≤ (m : Int) := by omega
  by_cases hlt : m < l.length
  · have m1 : (m : Int) < (l.length : Int) := by omega
    rcases hL with hz | ⟨g, rfl, hat⟩
    · rw [hz] at hlt; exact absurd hlt (by simp)
    have c1 := hat.id hlt
    clear hat
    by_cases hk : (l.getD m zeroE).1 = k
    · have hE := Lib.hid (pos_has HA.out hlt hk).1
      rw [hk] at c1
      clear hk
      go_wp2_with fail
      go_ret
      exact ⟨by rw [hE.out]; rfl, rfl⟩
    · have hE := Lib.hid (pos_not HA.out HPP.out (fun h => hk h.2))
      have hbe : ((l.getD m zeroE).1 == k) = false := beq_eq_false_iff_ne.2 hk
      generalize (l.getD m zeroE).1 = x at *
      go_wp2_with fail
      go_ret
      exact ⟨by rw [hE.out]; rfl, rfl⟩
  · have hE := Lib.hid (pos_not HA.out HPP.out (fun h => hlt h.1))
    have m1 : ¬ (m : Int) < (l.length : Int) := by omega
    go_wp2_with fail
    go_ret
    exact ⟨by rw [hE.out]; rfl, rfl⟩
set_option maxRecDepth 100000 in
theorem rGet_calls (p : Nat) (v : Value) (l : List El) (id : ByteArray) (w : World) (hS : RSetAt w p v l) (hA : Asc (esR l)) (hn : l.length ≤ 1000000) :
    Calls Tryz.prog 26 #[.pointer (some ⟨p, 0, none⟩), .string id] w fun e W' => e = .returned (.tuple #[lookE (esR l) id.data.toList, .bool (hasE (esR l) id.data.toList)]) ∧ Below w.heap.size w W' := by
  have HPl := Lib.hid (fun W hS => place_calls p v l id W hS hA hn)
  obtain ⟨A, cap, rfl, hcap, hL0⟩ := hS.reads
  have HA := Lib.hid hA
  obtain ⟨k, rfl⟩ : ∃ k : Bs, id = ⟨k.toArray⟩ := ⟨id.data.toList, (mk_eta id).symm⟩
  have hd : (⟨k.toArray⟩ : ByteArray).data.toList = k := by simp
  rw [hd] at HPl ⊢
  obtain ⟨w1, hw1⟩ : ∃ w1, w.alloc (.cells (factC (fun _ => 0) ⟨#[]⟩) 40) = w1 := ⟨_, rfl⟩
  have b1 : Below w.heap.size w w1 := by rw [← hw1]; exact (Below.refl _ w).alloc (Nat.le_refl _) _
  have hS1 := hS.below b1
  have h1 : w1.heap[w.heap.size]? = some (.cells (factC (fun _ => 0) ⟨#[]⟩) 40 (0, 0)) := by rw [← hw1]; exact heap_new w _
  have hc := hS1.cell
  have hL : l = [] ∨ ∃ g, A = some ⟨g, 0, none⟩ ∧ ElAt w1 g l := by
    obtain ⟨A', cap', e, _, h⟩ := hS1.reads
    injection e with e1 e2 e3
    subst e1
    exact h
  have S1 := Lib.hid hS1
  have B1 := Lib.hid b1
  clear hS hA hd hL0 hS1 b1
  go_enter Tryz.func26, Tryz.ntmps26
  go_wp2_with fail
  refine (HPl.out _ S1.out).mono ?_
  rintro e W1 ⟨⟨m, rfl, hP⟩, rfl⟩
  have HPP := Lib.hid hP
  have hml := hP.1
  clear hP HPl
  have m0 : (0 : Int) ≤ (m : Int) := by omega
  have hzero := factC_one (fun _ => 0) ⟨#[]⟩
  by_cases hlt : m < l.length
  · have m1 : (m : Int) < (l.length : Int) := by omega
    rcases hL with hz | ⟨g, rfl, hat⟩
    · rw [hz] at hlt; exact absurd hlt (by simp)
    have c1 := hat.id hlt
    have HF := Lib.hid (hat.fact hlt)
    clear hat
    by_cases hk : (l.getD m zeroE).1 = k
    · have hE := Lib.hid (pos_has HA.out hlt hk)
      rw [hk] at c1
      clear hk
      generalize (l.getD m zeroE).2 = f at *
      obtain ⟨u, t⟩ := f
      have hone := factC_one u t
      go_wp2_with (first | (refine wpList_load_at rfl _ rfl g (m * 19 + 1) rfl u t HF.out ?_) | (refine wpList_store_row rfl 40 _ _ rfl w.heap.size (factC u t) rfl rfl 40 (factC (fun _ => 0) ⟨#[]⟩) h1 (hiC _ _) rfl hone ?_))
      refine bodyPost_ret (v := .tuple #[.agg (factC u t), .bool true]) ?_ rfl ?_
      · exact results_fact_tmp rfl _ _ w.heap.size _ _ _ rfl (setRow_heap _ w.heap.size _ _ 40 (0, 0) h1) rfl
      · exact ⟨by rw [hE.out.1, hE.out.2], below_setRow' B1.out _ _ (by omega)⟩
    · have hE := Lib.hid (pos_not HA.out HPP.out (fun h => hk h.2))
      have hbe : ((l.getD m zeroE).1 == k) = false := beq_eq_false_iff_ne.2 hk
      generalize (l.getD m zeroE).1 = x at *
      go_wp2_with (first | (refine wpList_store_row rfl 40 _ _ rfl w.heap.size (factC (fun _ => 0) ⟨#[]⟩) rfl rfl 40 (factC (fun _ => 0) ⟨#[]⟩) h1 (hiC _ _) rfl hzero ?_))
      refine bodyPost_ret (v := .tuple #[.agg (factC (fun _ => 0) ⟨#[]⟩), .bool false]) ?_ rfl ?_
      · exact results_fact_tmp rfl _ _ w.heap.size _ _ _ rfl (setRow_heap _ w.heap.size _ _ 40 (0, 0) h1) rfl
      · exact ⟨by rw [hE.out, has_look hE.out], below_setRow' B1.out _ _ (by omega)⟩
  · have hE := Lib.hid (pos_not HA.out HPP.out (fun h => hlt h.1))
    have m1 : ¬ (m : Int) < (l.length : Int) := by omega
    go_wp2_with (first | (refine wpList_store_row rfl 40 _ _ rfl w.heap.size (factC (fun _ => 0) ⟨#[]⟩) rfl rfl 40 (factC (fun _ => 0) ⟨#[]⟩) h1 (hiC _ _) rfl hzero ?_))
    refine bodyPost_ret (v := .tuple #[.agg (factC (fun _ => 0) ⟨#[]⟩), .bool false]) ?_ rfl ?_
    · exact results_fact_tmp rfl _ _ w.heap.size _ _ _ rfl (setRow_heap _ w.heap.size _ _ 40 (0, 0) h1) rfl
    · exact ⟨by rw [hE.out, has_look hE.out], below_setRow' B1.out _ _ (by omega)⟩
end Go.Proofs.YtnndnjnpkjpkpaaGreatDoor
