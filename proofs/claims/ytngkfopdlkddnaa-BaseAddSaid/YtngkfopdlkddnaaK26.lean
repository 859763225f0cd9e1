/- The contract of base.lists: a map of its own from each kind to the address of that kind's list; its ten entries are made in whatever order. -/
import Derived.Test.YtngkfopdlkddnaaK25
import Derived.Test.YtngkfopdlkddnaaK12
import Derived.Test.YtngkfopdlkddnaaK17
import Derived.Maps.Ext
namespace Go.Proofs.Ytngkfopdlkddnaa
open Go Go.RowKit Go.Maps
section
variable {P : Program} {md : Region.Mode} {ops : Array Oper} {C : World → Prop} {Q : Exit → Act → World → Prop}
theorem any_of_one {fuel : Nat} {listed : Array Bool} {a : Act} {w : World} (i : Nat) {oi : Oper} (hr : Region.ready md ops listed = [i]) (hi : ops[i]? = some oi) (wi : Region.wanted oi (yielded ops a.tmps) = true)
    (h1 : oi.wp P a w (fun b w' => C w' ∧ wpAnyH P md ops Q C fuel (listed.setIfInBounds i true) b w') Q) : wpAnyH P md ops Q C (fuel + 1) listed a w := by
  refine ⟨fun h => (by rw [hr] at h; cases h), fun k hk => ?_⟩
  rw [hr] at hk
  obtain rfl : k = i := by simpa using hk
  unfold wpOp
  simp only [hi, wi, if_true]
  exact .inl h1
end
noncomputable def codL (id : Nat) : Code := (Try.f24.body.bind (findC id)).getD .skip
theorem lawI : Keyed Try.prog 3 := int_keyed Try.underlying3
def lk (k : Nat) : Lit := .int .i64 (k : Int)
theorem lk_inj {j k : Nat} (h : lk j = lk k) : j = k := by unfold lk at h; simp only [Lit.int.injEq, true_and] at h; omega
theorem lk_key (k : Nat) (h : k ≤ 10) : keyOf Try.prog 3 (.int .i64 (k : Int)) = some (lk k) := keyOf_int_mk Try.underlying3 (WalkArith.wf_i64 (by omega))
/-- The map that has the values f k at the kinds k of S. -/
def KindMap (D : DataW Value) (S : Nat → Prop) (f : Nat → Value) : Prop :=
  IsMap D ∧ (∀ k, 1 ≤ k → k ≤ 10 → (¬ S k → has D (lk k) = false) ∧ (S k → has D (lk k) = true ∧ ∀ z, D.atKey (lk k) z = .held (f k))) ∧ ∀ l, (∀ k, 1 ≤ k → k ≤ 10 → l ≠ lk k) → has D l = false
theorem kindMap_empty (f : Nat → Value) : KindMap (.map []) (fun _ => False) f := ⟨isMap_empty, fun _ _ _ => ⟨fun _ => rfl, fun h => h.elim⟩, fun _ _ => rfl⟩
theorem KindMap.put {D : DataW Value} {S : Nat → Prop} {f : Nat → Value} (h : KindMap D S f) (k : Nat) (h1 : 1 ≤ k) (h2 : k ≤ 10) : KindMap (D.put (lk k) (.held (f k))) (fun j => j = k ∨ S j) f := by
  obtain ⟨hm, hk, ho⟩ := h
  have hkey : WideAt.IsKeyLit (lk k) := trivial
  refine ⟨hm.put _ _, fun j j1 j2 => ?_, fun l hl => ?_⟩
  · by_cases e : j = k
    · subst e
      exact ⟨fun hn => absurd (.inl rfl) hn, fun _ => ⟨has_put_same hm hkey _, fun z => atKey_put_same hm hkey _ z⟩⟩
    · have hne : lk j ≠ lk k := fun e2 => e (lk_inj e2)
      rw [has_put_other hne]
      exact ⟨fun hn => (hk j j1 j2).1 (fun hs => hn (.inr hs)), fun hs => ⟨((hk j j1 j2).2 (hs.resolve_left e)).1, fun z => by rw [atKey_put_other hne]; exact ((hk j j1 j2).2 (hs.resolve_left e)).2 z⟩⟩
  · rw [has_put_other (hl k h1 h2)]; exact ho l hl
theorem KindMap.same {D : DataW Value} {S T : Nat → Prop} {f : Nat → Value} (h : KindMap D S f) (hST : ∀ k, 1 ≤ k → k ≤ 10 → (S k ↔ T k)) : KindMap D T f :=
  ⟨h.1, fun k h1 h2 => ⟨fun hn => (h.2.1 k h1 h2).1 (fun hs => hn ((hST k h1 h2).1 hs)), fun ht => (h.2.1 k h1 h2).2 ((hST k h1 h2).2 ht)⟩, h.2.2⟩
/-- A map of the program that has the values f k at all kinds. -/
def KindsAt (w : World) (b : Nat) (f : Nat → Value) : Prop := ∃ n D, n ≤ 100 ∧ w.ownsMap Try.prog 3 valR b n D ∧ KindMap D (fun _ => True) f
def fieldP (p : Nat) (k : Nat) : Value := .pointer (some ⟨p, k - 1, none⟩)
theorem ins_step {a : Act} {F : Nat → Value} {ds : List Deferred} {b p : Nat} {w w1 : World} {J : List Nat} (k : Nat) (k1 : 1 ≤ k) (k2 : k ≤ 10) (hn : J.Nodup) (hi : 4 * k ∈ J) (hl : J.length ≤ 10) {o : Oper} (ho : o.op = .insert 53 (.tmp 3) (.const (.int .i64 (k : Int))) (.tmp (3 * k + 3))) (hd : o.dst = none)
    (h3 : F 3 = .map (some b)) (hv : F (3 * k + 3) = fieldP p k) (hr : Rep 35 a F) (hds : a.defers = ds) (hbw : w.heap.size ≤ b) (hC : Below w.heap.size w w1)
    (hI : ∃ D, w1.ownsMap Try.prog 3 valR b (10 - J.length) D ∧ KindMap D (fun j => 4 * j ∉ J) (fieldP p)) (Q : Exit → Act → World → Prop) :
    o.wp Try.prog a w1 (fun a' w' => Below w.heap.size w w' ∧ Rep 35 a' F ∧ a'.defers = ds ∧ ∃ D, w'.ownsMap Try.prog 3 valR b (10 - (J.erase (4 * k)).length) D ∧ KindMap D (fun j => 4 * j ∉ J.erase (4 * k)) (fieldP p)) Q := by
  obtain ⟨D, hown, hK⟩ := hI
  obtain ⟨w2, hrun, hown2, hg⟩ := hown.update lawI Try.underlying53 (by unfold maxLen; omega) (lk_key k k2) (show valR (fieldP p k) = some (.held (fieldP p k), []) from rfl)
  unfold Oper.wp
  have he : (execOp a.eval o).run Try.prog w1 = .ok .skip w2 := by
    rw [hr.eval]
    unfold execOp
    simp only [ho, evF, h3, hv, Sem.run_bind, Sem.run_pure, hrun, Result.andThen_ok]
  rw [he]
  refine ⟨hC.grown hg hC.size (fun j e => by cases e; exact hbw), ?_⟩
  rw [hd]
  refine ⟨hr, hds, _, ?_, (hK.put k k1 k2).same fun j j1 j2 => ?_⟩
  · rw [List.length_erase_of_mem hi]
    exact hown2.mono (by have := List.length_pos_of_mem hi; omega)
  · rw [hn.mem_erase_iff]
    constructor
    · rintro (rfl | h) hh
      · exact hh.1 rfl
      · exact h hh.2
    · intro h
      by_cases e : j = k
      · exact .inl e
      · exact .inr fun hh => h ⟨by omega, hh⟩
def bagJ : List Nat := [4, 8, 12, 16, 20, 24, 28, 32, 36, 40]
def bagL : Array Bool := #[true, true, true, true, true, true, true, true, true, true, true, true, true, true, true, true, true, true, true, true, true, true, true, true, true, true, true, true, true, true, true, true, true, true, true, true, true, true, true, true, true, false, false]
def preL : Array Bool := #[false, true, true, true, false, true, true, true, false, true, true, true, false, true, true, true, false, true, true, true, false, true, true, true, false, true, true, true, false, true, true, true, false, true, true, true, false, true, true, true, false, false, false]
def preP (l : List Oper) : List Oper := (List.range 10).flatMap fun j => (l.drop (1 + 4 * j)).take 3
set_option maxRecDepth 100000 in
set_option maxHeartbeats 4000000 in
theorem reg_lists (a : Act) (hs : a.tmps.size = 35) (p : Nat) (w : World) (h0 : a.tmps.getD 0 undef = .pointer (some ⟨p, 0, none⟩)) (Q : Exit → Act → World → Prop)
    (K : ∀ (a' : Act) (w' : World), a'.tmps.size = 35 → a'.defers = a.defers → a'.tmps.getD 2 undef = .map (some w.heap.size) → KindsAt w' w.heap.size (fieldP p) → Below w.heap.size w w' → Q .normal a' w') : Code.wp Try.prog (codL 1) Q a w := by
  have hr := (rep_self hs).know (d := 0) (v := .pointer (some ⟨p, 0, none⟩)) h0
  conv => arg 2; whnf
  refine wp_region_pre (fun w' => Below w.heap.size w w') (fun w' => w'.heap.size = w.heap.size) preP (List.replicate 30 true) ((List.range 10).flatMap fun j => [1 + 4 * j, 2 + 4 * j, 3 + 4 * j]) 13 preL (by kernel_rfl) (by kernel_rfl) (by kernel_rfl) (by kernel_rfl) (by kernel_rfl) (Below.drew (Below.refl _ _)) rfl ?_
  intro w0 hC0 hD0
  refine mix_of_F (C := fun w' => Below w.heap.size w w') (T := fun f' w' => (∃ (u4 u5 u7 u8 u10 u11 u13 u14 u16 u17 u19 u20 u22 u23 u25 u26 u28 u29 u31 u32 : Value), f' = updL (upd (fun t => a.tmps.getD t undef) 0 (.pointer (some ⟨p, 0, none⟩))) [(4, u4), (5, u5), (6, .pointer (some ⟨p, 0, none⟩)), (7, u7), (8, u8), (9, .pointer (some ⟨p, 1, none⟩)), (10, u10), (11, u11), (12, .pointer (some ⟨p, 2, none⟩)), (13, u13), (14, u14), (15, .pointer (some ⟨p, 3, none⟩)), (16, u16), (17, u17), (18, .pointer (some ⟨p, 4, none⟩)), (19, u19), (20, u20), (21, .pointer (some ⟨p, 5, none⟩)), (22, u22), (23, u23), (24, .pointer (some ⟨p, 6, none⟩)), (25, u25), (26, u26), (27, .pointer (some ⟨p, 7, none⟩)), (28, u28), (29, u29), (30, .pointer (some ⟨p, 8, none⟩)), (31, u31), (32, u32), (33, .pointer (some ⟨p, 9, none⟩))]) ∧ w' = w0) (n := 35) a.defers ?_ _ _ a _ w0 (by kernel_rfl) hr rfl ?_
  · rintro a1 f1 w1 hr1 hd1 ⟨⟨u4, u5, u7, u8, u10, u11, u13, u14, u16, u17, u19, u20, u22, u23, u25, u26, u28, u29, u31, u32, rfl⟩, rfl⟩
    have hmk := @run_makeMap Try.prog
    refine any_of_one 0 (by kernel_rfl) (by rfl) (by rfl) ?_
    refine wp_of_StandsF hr1 (by rfl) (.inl ⟨.map (some w1.heap.size), w1.alloc (.map #[] 0), by simp only [execOp]; go_simp, ?_⟩)
    intro b2 hb2 hd2
    have hal : Below w1.heap.size w1 (w1.alloc (.map #[] 0)) := (Below.refl _ w1).alloc (Nat.le_refl _) _
    have hC2 : Below w.heap.size w (w1.alloc (.map #[] 0)) := hC0.trans (hal.mono hC0.size)
    refine ⟨hC2, ?_⟩
    have hd1' : b2.defers = a.defers := hd2.trans hd1
    have hinit : Left bagL (preL.setIfInBounds 0 true) bagJ := ⟨by kernel_rfl, of_decide_eq_true (by kernel_rfl)⟩
    refine any_of_bag (J0 := bagJ) (L := bagL) (by kernel_rfl) 2 (fun J a' w' => J.length ≤ 10 ∧ Rep 35 a' (updO (updL (upd (fun t => a.tmps.getD t undef) 0 (.pointer (some ⟨p, 0, none⟩))) [(4, u4), (5, u5), (6, .pointer (some ⟨p, 0, none⟩)), (7, u7), (8, u8), (9, .pointer (some ⟨p, 1, none⟩)), (10, u10), (11, u11), (12, .pointer (some ⟨p, 2, none⟩)), (13, u13), (14, u14), (15, .pointer (some ⟨p, 3, none⟩)), (16, u16), (17, u17), (18, .pointer (some ⟨p, 4, none⟩)), (19, u19), (20, u20), (21, .pointer (some ⟨p, 5, none⟩)), (22, u22), (23, u23), (24, .pointer (some ⟨p, 6, none⟩)), (25, u25), (26, u26), (27, .pointer (some ⟨p, 7, none⟩)), (28, u28), (29, u29), (30, .pointer (some ⟨p, 8, none⟩)), (31, u31), (32, u32), (33, .pointer (some ⟨p, 9, none⟩))]) (some 3) (.map (some w1.heap.size))) ∧ a'.defers = a.defers ∧ ∃ D, w'.ownsMap Try.prog 3 valR w1.heap.size (10 - J.length) D ∧ KindMap D (fun j => 4 * j ∉ J) (fieldP p))
      ?_ ?_ 10 bagJ _ b2 _ rfl (by decide) (fun _ h => h) hinit ⟨by decide, hb2, hd1', .map [], World.ownsMap_made _ _ _ _, (kindMap_empty _).same fun k k1 k2 => ⟨fun h => h.elim, fun h => h (by simp [bagJ]; omega)⟩⟩ hC2
    · rintro J i o a' w' hn hJ hiJ ho ⟨hl, hr', hd', hI⟩ hC'
      have h0 := hJ i hiJ
      simp only [bagJ, List.mem_cons, List.not_mem_nil, or_false] at h0
      have hbw : w.heap.size ≤ w1.heap.size := hC0.size
      rcases h0 with rfl | rfl | rfl | rfl | rfl | rfl | rfl | rfl | rfl | rfl
      · obtain rfl := Option.some.inj ho
        refine ⟨by rfl, Oper.wp_mono (fun b w' h => ⟨h.1, ?_, h.2⟩) (ins_step 1 (by omega) (by omega) hn hiJ hl rfl rfl rfl rfl hr' hd' hbw hC' hI _)⟩
        have := List.length_erase_of_mem hiJ
        omega
      · obtain rfl := Option.some.inj ho
        refine ⟨by rfl, Oper.wp_mono (fun b w' h => ⟨h.1, ?_, h.2⟩) (ins_step 2 (by omega) (by omega) hn hiJ hl rfl rfl rfl rfl hr' hd' hbw hC' hI _)⟩
        have := List.length_erase_of_mem hiJ
        omega
      · obtain rfl := Option.some.inj ho
        refine ⟨by rfl, Oper.wp_mono (fun b w' h => ⟨h.1, ?_, h.2⟩) (ins_step 3 (by omega) (by omega) hn hiJ hl rfl rfl rfl rfl hr' hd' hbw hC' hI _)⟩
        have := List.length_erase_of_mem hiJ
        omega
      · obtain rfl := Option.some.inj ho
        refine ⟨by rfl, Oper.wp_mono (fun b w' h => ⟨h.1, ?_, h.2⟩) (ins_step 4 (by omega) (by omega) hn hiJ hl rfl rfl rfl rfl hr' hd' hbw hC' hI _)⟩
        have := List.length_erase_of_mem hiJ
        omega
      · obtain rfl := Option.some.inj ho
        refine ⟨by rfl, Oper.wp_mono (fun b w' h => ⟨h.1, ?_, h.2⟩) (ins_step 5 (by omega) (by omega) hn hiJ hl rfl rfl rfl rfl hr' hd' hbw hC' hI _)⟩
        have := List.length_erase_of_mem hiJ
        omega
      · obtain rfl := Option.some.inj ho
        refine ⟨by rfl, Oper.wp_mono (fun b w' h => ⟨h.1, ?_, h.2⟩) (ins_step 6 (by omega) (by omega) hn hiJ hl rfl rfl rfl rfl hr' hd' hbw hC' hI _)⟩
        have := List.length_erase_of_mem hiJ
        omega
      · obtain rfl := Option.some.inj ho
        refine ⟨by rfl, Oper.wp_mono (fun b w' h => ⟨h.1, ?_, h.2⟩) (ins_step 7 (by omega) (by omega) hn hiJ hl rfl rfl rfl rfl hr' hd' hbw hC' hI _)⟩
        have := List.length_erase_of_mem hiJ
        omega
      · obtain rfl := Option.some.inj ho
        refine ⟨by rfl, Oper.wp_mono (fun b w' h => ⟨h.1, ?_, h.2⟩) (ins_step 8 (by omega) (by omega) hn hiJ hl rfl rfl rfl rfl hr' hd' hbw hC' hI _)⟩
        have := List.length_erase_of_mem hiJ
        omega
      · obtain rfl := Option.some.inj ho
        refine ⟨by rfl, Oper.wp_mono (fun b w' h => ⟨h.1, ?_, h.2⟩) (ins_step 9 (by omega) (by omega) hn hiJ hl rfl rfl rfl rfl hr' hd' hbw hC' hI _)⟩
        have := List.length_erase_of_mem hiJ
        omega
      · obtain rfl := Option.some.inj ho
        refine ⟨by rfl, Oper.wp_mono (fun b w' h => ⟨h.1, ?_, h.2⟩) (ins_step 10 (by omega) (by omega) hn hiJ hl rfl rfl rfl rfl hr' hd' hbw hC' hI _)⟩
        have := List.length_erase_of_mem hiJ
        omega
    · rintro a' w' ⟨_, hr', hd', D, hown, hK⟩ hC'
      refine any_of_rest (fun l => l.drop 41) [true, true] [41, 42] (by kernel_rfl) (by kernel_rfl) (by kernel_rfl) (by kernel_rfl) (by kernel_rfl) hC' ?_
      refine mix_of_F (C := fun w' => Below w.heap.size w w') (T := fun f' w2 => f' 2 = .map (some w1.heap.size) ∧ w2 = w') (n := 35) a.defers ?_ _ _ a' _ w' (by kernel_rfl) hr' hd' ?_
      · rintro a3 f3 w3 hr3 hd3 ⟨h2, rfl⟩
        refine K a3 w3 hr3.1 hd3 ((hr3.2 2).trans (h2.trans (by rw [hD0]))) ?_ hC'
        rw [← hD0]
        exact ⟨10, D, by omega, hown, hK.same fun k _ _ => ⟨fun _ => trivial, fun _ h => by cases h⟩⟩
      · refine f_val (.map (some w1.heap.size)) (by rfl) (fun _ _ => by rfl) ?_
        refine f_val (.map (some w1.heap.size)) (by rfl) (fun _ _ => by rfl) ?_
        refine f_done ⟨rfl, rfl⟩
  · dsimp only [preP, List.range, List.range.loop, List.flatMap_cons, List.flatMap_nil, List.drop_succ_cons, List.drop_zero, List.take_succ_cons, List.take_zero, List.cons_append, List.nil_append, List.append_nil, Nat.reduceMul, Nat.reduceAdd, List.replicate]
    refine f_val (.pointer (some ⟨p, 0, none⟩)) (by rfl) (fun _ _ => by first | rfl | (simp only [execOp, evF, upd, Nat.reduceEqDiff, reduceIte]; go_simp; done)) ?_
    dsimp only [updO]
    refine f_val (.pointer (some ⟨p, 0, none⟩)) (by rfl) (fun _ _ => by first | rfl | (simp only [execOp, evF, upd, Nat.reduceEqDiff, reduceIte]; go_simp; done)) ?_
    dsimp only [updO]
    refine f_val (.pointer (some ⟨p, 0, none⟩)) (by rfl) (fun _ _ => by first | rfl | (simp only [execOp, evF, upd, Nat.reduceEqDiff, reduceIte]; go_simp; done)) ?_
    dsimp only [updO]
    refine f_val (.pointer (some ⟨p, 0, none⟩)) (by rfl) (fun _ _ => by first | rfl | (simp only [execOp, evF, upd, Nat.reduceEqDiff, reduceIte]; go_simp; done)) ?_
    dsimp only [updO]
    refine f_val (.pointer (some ⟨p, 0, none⟩)) (by rfl) (fun _ _ => by first | rfl | (simp only [execOp, evF, upd, Nat.reduceEqDiff, reduceIte]; go_simp; done)) ?_
    dsimp only [updO]
    refine f_val (.pointer (some ⟨p, 1, none⟩)) (by rfl) (fun _ _ => by first | rfl | (simp only [execOp, evF, upd, Nat.reduceEqDiff, reduceIte]; go_simp; done)) ?_
    dsimp only [updO]
    refine f_val (.pointer (some ⟨p, 0, none⟩)) (by rfl) (fun _ _ => by first | rfl | (simp only [execOp, evF, upd, Nat.reduceEqDiff, reduceIte]; go_simp; done)) ?_
    dsimp only [updO]
    refine f_val (.pointer (some ⟨p, 0, none⟩)) (by rfl) (fun _ _ => by first | rfl | (simp only [execOp, evF, upd, Nat.reduceEqDiff, reduceIte]; go_simp; done)) ?_
    dsimp only [updO]
    refine f_val (.pointer (some ⟨p, 2, none⟩)) (by rfl) (fun _ _ => by first | rfl | (simp only [execOp, evF, upd, Nat.reduceEqDiff, reduceIte]; go_simp; done)) ?_
    dsimp only [updO]
    refine f_val (.pointer (some ⟨p, 0, none⟩)) (by rfl) (fun _ _ => by first | rfl | (simp only [execOp, evF, upd, Nat.reduceEqDiff, reduceIte]; go_simp; done)) ?_
    dsimp only [updO]
    refine f_val (.pointer (some ⟨p, 0, none⟩)) (by rfl) (fun _ _ => by first | rfl | (simp only [execOp, evF, upd, Nat.reduceEqDiff, reduceIte]; go_simp; done)) ?_
    dsimp only [updO]
    refine f_val (.pointer (some ⟨p, 3, none⟩)) (by rfl) (fun _ _ => by first | rfl | (simp only [execOp, evF, upd, Nat.reduceEqDiff, reduceIte]; go_simp; done)) ?_
    dsimp only [updO]
    refine f_val (.pointer (some ⟨p, 0, none⟩)) (by rfl) (fun _ _ => by first | rfl | (simp only [execOp, evF, upd, Nat.reduceEqDiff, reduceIte]; go_simp; done)) ?_
    dsimp only [updO]
    refine f_val (.pointer (some ⟨p, 0, none⟩)) (by rfl) (fun _ _ => by first | rfl | (simp only [execOp, evF, upd, Nat.reduceEqDiff, reduceIte]; go_simp; done)) ?_
    dsimp only [updO]
    refine f_val (.pointer (some ⟨p, 4, none⟩)) (by rfl) (fun _ _ => by first | rfl | (simp only [execOp, evF, upd, Nat.reduceEqDiff, reduceIte]; go_simp; done)) ?_
    dsimp only [updO]
    refine f_val (.pointer (some ⟨p, 0, none⟩)) (by rfl) (fun _ _ => by first | rfl | (simp only [execOp, evF, upd, Nat.reduceEqDiff, reduceIte]; go_simp; done)) ?_
    dsimp only [updO]
    refine f_val (.pointer (some ⟨p, 0, none⟩)) (by rfl) (fun _ _ => by first | rfl | (simp only [execOp, evF, upd, Nat.reduceEqDiff, reduceIte]; go_simp; done)) ?_
    dsimp only [updO]
    refine f_val (.pointer (some ⟨p, 5, none⟩)) (by rfl) (fun _ _ => by first | rfl | (simp only [execOp, evF, upd, Nat.reduceEqDiff, reduceIte]; go_simp; done)) ?_
    dsimp only [updO]
    refine f_val (.pointer (some ⟨p, 0, none⟩)) (by rfl) (fun _ _ => by first | rfl | (simp only [execOp, evF, upd, Nat.reduceEqDiff, reduceIte]; go_simp; done)) ?_
    dsimp only [updO]
    refine f_val (.pointer (some ⟨p, 0, none⟩)) (by rfl) (fun _ _ => by first | rfl | (simp only [execOp, evF, upd, Nat.reduceEqDiff, reduceIte]; go_simp; done)) ?_
    dsimp only [updO]
    refine f_val (.pointer (some ⟨p, 6, none⟩)) (by rfl) (fun _ _ => by first | rfl | (simp only [execOp, evF, upd, Nat.reduceEqDiff, reduceIte]; go_simp; done)) ?_
    dsimp only [updO]
    refine f_val (.pointer (some ⟨p, 0, none⟩)) (by rfl) (fun _ _ => by first | rfl | (simp only [execOp, evF, upd, Nat.reduceEqDiff, reduceIte]; go_simp; done)) ?_
    dsimp only [updO]
    refine f_val (.pointer (some ⟨p, 0, none⟩)) (by rfl) (fun _ _ => by first | rfl | (simp only [execOp, evF, upd, Nat.reduceEqDiff, reduceIte]; go_simp; done)) ?_
    dsimp only [updO]
    refine f_val (.pointer (some ⟨p, 7, none⟩)) (by rfl) (fun _ _ => by first | rfl | (simp only [execOp, evF, upd, Nat.reduceEqDiff, reduceIte]; go_simp; done)) ?_
    dsimp only [updO]
    refine f_val (.pointer (some ⟨p, 0, none⟩)) (by rfl) (fun _ _ => by first | rfl | (simp only [execOp, evF, upd, Nat.reduceEqDiff, reduceIte]; go_simp; done)) ?_
    dsimp only [updO]
    refine f_val (.pointer (some ⟨p, 0, none⟩)) (by rfl) (fun _ _ => by first | rfl | (simp only [execOp, evF, upd, Nat.reduceEqDiff, reduceIte]; go_simp; done)) ?_
    dsimp only [updO]
    refine f_val (.pointer (some ⟨p, 8, none⟩)) (by rfl) (fun _ _ => by first | rfl | (simp only [execOp, evF, upd, Nat.reduceEqDiff, reduceIte]; go_simp; done)) ?_
    dsimp only [updO]
    refine f_val (.pointer (some ⟨p, 0, none⟩)) (by rfl) (fun _ _ => by first | rfl | (simp only [execOp, evF, upd, Nat.reduceEqDiff, reduceIte]; go_simp; done)) ?_
    dsimp only [updO]
    refine f_val (.pointer (some ⟨p, 0, none⟩)) (by rfl) (fun _ _ => by first | rfl | (simp only [execOp, evF, upd, Nat.reduceEqDiff, reduceIte]; go_simp; done)) ?_
    dsimp only [updO]
    refine f_val (.pointer (some ⟨p, 9, none⟩)) (by rfl) (fun _ _ => by first | rfl | (simp only [execOp, evF, upd, Nat.reduceEqDiff, reduceIte]; go_simp; done)) ?_
    dsimp only [updO]
    refine f_done ⟨⟨_, _, _, _, _, _, _, _, _, _, _, _, _, _, _, _, _, _, _, _, rfl⟩, rfl⟩
theorem lists_calls (p : Nat) (w : World) : Calls Try.prog 24 #[.pointer (some ⟨p, 0, none⟩)] w fun e W' => e = .returned (.map (some w.heap.size)) ∧ KindsAt W' w.heap.size (fieldP p) ∧ Below w.heap.size w W' := by
  go_enter Try.func24, Try.ntmps24
  go_upto_region 1 with (fail)
  refine reg_lists _ rfl p w rfl _ ?_
  intro a' w' hs hd h2 hk hb
  go_wp2_with fail
  (try simp only [Exit.inBlock, Exit.then])
  refine bodyPost_ret (results_tmp rfl _ _ _) hd ?_
  exact ⟨by rw [h2], hk, hb⟩
end Go.Proofs.Ytngkfopdlkddnaa
