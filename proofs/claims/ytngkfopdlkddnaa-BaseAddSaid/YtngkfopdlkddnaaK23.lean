/- The contracts of slices.AppendSeq and slices.Collect at keys, against base's map: a row of one's own with all keys. | Rows of base's keys as the library's sort takes them. | Contract of slices.SortedFunc at base's keys: all keys of the map, ascending. -/
import Derived.Test.YtngkfopdlkddnaaK20
import Derived.Test.YtngkfopdlkddnaaK17
import Derived.Test.YtngkfopdlkddnaaK22
import Derived.Test.YtngkfopdlkddnaaK19
namespace Go.Proofs.Ytngkfopdlkddnaa
open Go Go.RowKit Go.Maps Go.Shelf
attribute [local go_sem] Oper.semAt_some
theorem infoK3 : (Try.prog.info? 41).map (fun i => (i.zero, i.size, i.bytes)) = some (some (.agg #[.int .i64 0, .int .i64 0, .int .i64 0]), 3, 24) := by kernel_rfl
def cellsK (ks : List K3) : List Value := ks.flatMap fun k => [.int .i64 k.1, .int .i64 k.2.1, .int .i64 k.2.2]
theorem cellsK_snoc (ks : List K3) (k : K3) : cellsK (ks ++ [k]) = cellsK ks ++ [.int .i64 k.1, .int .i64 k.2.1, .int .i64 k.2.2] := by unfold cellsK; rw [List.flatMap_append]; simp
theorem cellsK_length (ks : List K3) : (cellsK ks).length = ks.length * 3 := by
  induction ks with
  | nil => rfl
  | cons k r ih => unfold cellsK at *; rw [List.flatMap_cons, List.length_append, ih]; simp; omega
def RowK (w : World) (base : Nat) (v : Value) (ks : List K3) : Prop := w.ownsRow base 41 3 v ks.length (cellsK ks)
theorem appendK (base : Nat) (w : World) {v : Value} {l : List K3} (hv : RowK w base v l) (k : K3) (g : Nat) (hg : w.heap[g]? = some (.cells (keyA k) 41 (0, 0))) (hb : base ≤ w.heap.size) (hlen : l.length ≤ 1000000) (ty : TypeId) :
    ∃ v' w', (Builtin.append_ #[62, 62] ty #[v, .slice (some ⟨g, 0, none⟩) 1 1]).run Try.prog w = .ok v' w' ∧ RowK w' base v' (l ++ [k]) ∧ w.grownBy w' v.ownBlock ∧ (v' = .slice none 0 0 ↔ l ++ [k] = []) := by
  obtain ⟨i0, hi, hz0, hz1, hz2⟩ := info_parts infoK3
  have h3 : (keyA k).toList.length = 1 * 3 := rfl
  obtain ⟨v', w', hr, ho, hgr, _, _⟩ := run_append_own_at w base 62 ty 41 i0 _ 3 24 Try.underlying62 hi hz0 hz1 hz2 rfl (by decide) v l.length (cellsK l) hv ⟨g, 0, none⟩ 1 1 (keyA k).toList h3 (World.news_of_block hg)
    (fun u hu => Array.all_eq_true_iff_forall_mem.1 (oneK k) u (Array.mem_def.2 hu)) (by unfold maxLen; omega) (by omega) hb
  have hrow : RowK w' base v' (l ++ [k]) := by
    unfold RowK
    rw [List.length_append, cellsK_snoc]
    exact ho
  refine ⟨v', w', hr, hrow, hgr, ?_⟩
  obtain ⟨g2, cap2, e⟩ := ownsRow_succ ho
  rw [e]
  simp
set_option maxRecDepth 100000 in
set_option maxHeartbeats 2000000 in
theorem appendSeq_in (n Bs b : Nat) (h1 : 4 ≤ n) (es : List Ent) (w : World) (hBs : w.cell? ⟨Bs, 0, none⟩ = some (.map (some b))) (hM : BMap w b es) (hkeys : ∀ p ∈ es, ∃ k, InK k ∧ p.1 = kb k) (hl : es.length ≤ 100000) :
    CallsIn Fence.wide n Try.prog 85 #[.slice none 0 0, .func (.func 68) #[] #[.pointer (some ⟨Bs, 0, none⟩)]] w fun e W' =>
      ∃ v ks, e = .returned v ∧ AllKeys es ks ∧ RowK W' w.heap.size v ks ∧ (v = .slice none 0 0 ↔ ks = []) ∧ Below w.heap.size w W' := by
  refine callsIn_of_wp_marks Try.func85 rfl trivial ?_ rfl
  simp only [Try.ntmps85, List.size_toArray, List.length_cons, List.length_nil, Nat.reduceAdd, Nat.reduceSub, Array.replicate_succ, Array.replicate_zero, List.push_toArray, List.append_toArray, List.nil_append, List.cons_append]
  gi_wp2
  have hal : Below w.heap.size w (w.alloc (.cells #[.slice none 0 0] 62)) := (Below.refl _ w).alloc (Nat.le_refl _) _
  have hbx := Boxed.new w 62 (.slice none 0 0)
  have hsz : (w.alloc (.cells #[.slice none 0 0] 62)).heap.size = w.heap.size + 1 := by simp
  have hBs1 := (hal.cell (p := ⟨Bs, 0, none⟩) (lt_of_cell hBs)).trans hBs
  have hM1 := hM.below hal
  have hrow0 : RowK (w.alloc (.cells #[.slice none 0 0] 62)) w.heap.size (.slice none 0 0) [] := World.ownsRow_nil _ _ _ _
  clear hBs hM
  generalize hW0 : w.alloc (.cells #[.slice none 0 0] 62) = W0 at *
  clear hW0
  refine wpIn_rangeFunc_ownH (encs := fun k : K3 => #[keyC k]) rfl (by omega) (gf := 68) (lb := #[.pointer (some ⟨Bs, 0, none⟩)]) rfl trivial (enters_of Try.func68 (by kernel_rfl) rfl)
    (keys_stopsK (n - 1) Bs b (by omega) es W0 hBs1 hM1 hkeys) walksK_t walksK_b (Below.refl _ _) (fun _ => rfl)
    (fun pre W => (∃ v, Boxed W w.heap.size 62 v ∧ W.ownsRow w.heap.size 41 3 v pre.length (cellsK pre) ∧ (v = .slice none 0 0 ↔ pre = [])) ∧ Below w.heap.size w W)
    (fun _ _ _ => False)
    (OwnFrom.and (Own.from (holdsRow_own w.heap.size w.heap.size 62 41 3 (fun pre : List K3 => pre.length) cellsK (fun pre v => (v = .slice none 0 0 ↔ pre = []))) _) (ownFrom_below (Nat.le_refl _) (by omega)))
    (fun _ _ _ _ _ hs _ _ => hs)
    ⟨⟨_, hbx, hrow0, by simp⟩, hal⟩
    (fun k a' W => ∃ Bx, w.heap.size < Bx ∧ W.heap[Bx]? = some (.cells (keyA k) 41 (0, 0)) ∧ a' = { tmps := #[.slice none 0 0, .func (.func 68) #[] #[.pointer (some ⟨Bs, 0, none⟩)], .pointer (some ⟨w.heap.size, 0, none⟩), undef, .slice none 0 0, .pointer (some ⟨Bx, 0, none⟩), .func (.func 68) #[] #[.pointer (some ⟨Bs, 0, none⟩)], keyC k, undef, undef, undef, undef, undef], defers := [] })
    ?hAx ?assign ?body ?done ?stop
  case hAx =>
    rintro x a' _ W W' row ⟨Bx, h1, h2, h3⟩ hg hr
    refine ⟨Bx, h1, ?_, h3⟩
    exact (hg.block Bx (Array.getElem?_eq_some_iff.1 h2).1 (fun e => by
      obtain ⟨_, o, ho, hc⟩ := hr Bx e.symm
      rw [h2] at ho; cases ho; cases hc)).trans h2
  case assign =>
    rintro l pre x W K ⟨⟨v, hv, hrow, hnil⟩, hB⟩ hK
    have hBl := hv.lt
    dsimp only [keyC]
    gi_wp2
    refine hK _ _ ((KeepsOthers.alloc _ _).from _) (KeepsWalks.alloc _ _) ⟨⟨v, hv.alloc _, World.ownsRow.alloc hrow _, hnil⟩, hB.alloc hB.size _⟩ ⟨W.heap.size, hBl, heap_new W _, rfl⟩
  case body =>
    rintro l pre k a' W hl ⟨r, hr⟩ ⟨⟨v, hv, hrow, hnil⟩, hB⟩ ⟨Bx, hBx, hbk, rfl⟩ hlt
    have c0 : W.cell? ⟨Bx, 0, none⟩ = some (.int .i64 k.1) := by rw [cell_of_row _ _ _ _ _ _ hbk]; rfl
    have c1 : W.cell? ⟨Bx, 1, none⟩ = some (.int .i64 k.2.1) := by rw [cell_of_row _ _ _ _ _ _ hbk]; rfl
    have c2 : W.cell? ⟨Bx, 2, none⟩ = some (.int .i64 k.2.2) := by rw [cell_of_row _ _ _ _ _ _ hbk]; rfl
    have cb := hv.cell
    obtain ⟨v', w1, happ, hown, hgr, hnil'⟩ := appendK w.heap.size (W.alloc (.cells (keyA k) 41)) (World.ownsRow.alloc hrow _) k W.heap.size (heap_new W _) (Nat.le_trans hB.size (by simp)) (by omega) 62
    have happ2 : (Builtin.append_ #[62, 62] 62 #[v, .slice (some ⟨W.heap.size, 0, none⟩) 1 1]).run Try.prog (W.alloc (.cells #[.int .i64 k.1, .int .i64 k.2.1, .int .i64 k.2.2] 41)) = .ok v' w1 := happ
    have hrc : ∃ g cap, v' = .slice (some ⟨g, 0, none⟩) (pre.length + 1) cap := by
      have h2 := hown
      unfold RowK at h2
      rw [List.length_append] at h2
      exact ownsRow_succ h2
    obtain ⟨hv1, hv2, hr2, hk2, hb2⟩ := hv.appended (by decide) hrow hB.size (Nat.le_refl _) hown hgr
    obtain ⟨g', cap', rfl⟩ := hrc
    have hc1 := hv1.cell
    have hf1 := hv1.frozen
    clear happ
    dsimp only [keyC]
    gi_wp2_with (gi_at_builtin; refine stepIn_append_run rfl _ _ _ rfl _ _ rfl rfl happ2 ?_)
    exact ⟨hk2.from _, ⟨hk2.size, fun j o hj ho => hk2.same j o hj (Obj.not_cells_of_walk ho)⟩, ⟨_, hv2, hr2, hnil'⟩, hB.trans hb2⟩
  case done =>
    rintro D ks W hD hS ⟨⟨v, hv, hrow, hnil⟩, hB⟩ hK
    have cb := hv.cell
    gi_wp2
    refine ⟨by simp, .inl ⟨_, _, rfl, run_takeDeferred hK, ?_⟩⟩
    have hDl := (Array.getElem?_eq_some_iff.1 hK).1
    exact ⟨_, results_tmp (t := 4) rfl _ _ _, v, ks, rfl, hS, ownsRow_putObj hrow (.deferred none) hK rfl, hnil, hB.trans (belowK_b (w := w) (Nat.le_refl _) W D _ _ (by omega) hK rfl rfl)⟩
  case stop =>
    rintro D c pre W _ _ h _
    exact h.elim
set_option maxRecDepth 100000 in
theorem collect_in (n Bs b : Nat) (es : List Ent) (w : World) (hBs : w.cell? ⟨Bs, 0, none⟩ = some (.map (some b))) (hM : BMap w b es) (hkeys : ∀ p ∈ es, ∃ k, InK k ∧ p.1 = kb k) (hl : es.length ≤ 100000) :
    CallsIn Fence.wide n Try.prog 66 #[.func (.func 68) #[] #[.pointer (some ⟨Bs, 0, none⟩)]] w fun e W' =>
      ∃ v ks, e = .returned v ∧ AllKeys es ks ∧ RowK W' w.heap.size v ks ∧ (v = .slice none 0 0 ↔ ks = []) ∧ Below w.heap.size w W' := by
  have h := callsIn_wide.1 (appendSeq_in 9 Bs b (by omega) es w hBs hM hkeys hl)
  refine callsIn_wide.2 ?_
  go_enter Try.func66, Try.ntmps66
  go_wp2_with fail
  refine h.mono ?_
  rintro e W' ⟨v, ks, rfl, h1, h2, h3, h4⟩
  go_wp2_with fail
  go_ret
  exact ⟨v, ks, rfl, h1, h2, h3, h4⟩
end Go.Proofs.Ytngkfopdlkddnaa
namespace Go.Proofs.Ytngkfopdlkddnaa
open Go Go.RowKit Go.Sort
theorem cellsK_get : ∀ (ks : List K3) (j : Nat), j < ks.length * 3 → (cellsK ks)[j]? = some ((encK (ks[j / 3]!))[j % 3]!)
  | [], j, h => by simp at h
  | k :: r, j, h => by
    have e : cellsK (k :: r) = encK k ++ cellsK r := by unfold cellsK encK; rw [List.flatMap_cons]
    rw [e]
    by_cases h3 : j < 3
    · have e0 : j / 3 = 0 := by omega
      have e1 : j % 3 = j := by omega
      rw [e0, e1, List.getElem?_append_left (by unfold encK; simpa using h3)]
      have hj : j = 0 ∨ j = 1 ∨ j = 2 := by omega
      rcases hj with rfl | rfl | rfl <;> rfl
    · obtain ⟨i, rfl⟩ : ∃ i, j = i + 3 := ⟨j - 3, by omega⟩
      have hi : i < r.length * 3 := by simp at h; omega
      rw [List.getElem?_append_right (by unfold encK; simp), show i + 3 - (encK k).length = i from by unfold encK; simp, cellsK_get r i hi, show (i + 3) / 3 = i / 3 + 1 by omega, show (i + 3) % 3 = i % 3 by omega]
      rfl
theorem holds_of_row {w : World} {base g n cap : Nat} {ks : List K3} (h : RowK w base (.slice (some ⟨g, 0, none⟩) n cap) ks) : n = ks.length ∧ base ≤ g ∧ g < w.heap.size ∧ n ≤ cap ∧ HoldsK encK 3 w g 0 ks.toArray := by
  obtain ⟨hl, h⟩ := h
  rcases h with ⟨e, _⟩ | ⟨g', cap', cur, e, hb, hg, hn, hc, hsz, htk⟩
  · cases e
  · cases e
    refine ⟨rfl, hb, (Array.getElem?_eq_some_iff.1 hg).1, hn, fun j hj => ?_⟩
    rw [size_flatK] at hj
    have hj' : j < ks.length * 3 := by simpa using hj
    rw [Nat.zero_add, get_flatK encK 3 ks.toArray j hj]
    refine ⟨?_, frozen_of_row _ _ _ _ _ hg⟩
    rw [cell_of_row _ _ _ _ _ _ hg]
    have h1 := cellsK_get ks j hj'
    rw [← htk, List.getElem?_take_of_lt hj'] at h1
    simpa using h1
theorem keys_of_holds {w : World} {g : Nat} {d : Array K3} (h : HoldsK encK 3 w g 0 d) (k : Nat) (hk : k < d.size) : w.cell? ⟨g, k * 3, none⟩ = some (.int .i64 (d[k]!).1) ∧ w.cell? ⟨g, k * 3 + 1, none⟩ = some (.int .i64 (d[k]!).2.1) ∧ w.cell? ⟨g, k * 3 + 2, none⟩ = some (.int .i64 (d[k]!).2.2) := by
  have h1 := (h.cell hk (show 0 < 3 by omega)).1
  have h2 := (h.cell hk (show 1 < 3 by omega)).1
  have h3 := (h.cell hk (show 2 < 3 by omega)).1
  rw [Nat.zero_add] at h1 h2 h3
  exact ⟨h1, h2, h3⟩
theorem asc_of_sorted {d : Array K3} {ks : List K3} (hp : PermIn 0 ks.length ks.toArray d) (hs : SortedIn (ltOf cmpK) 0 ks.length d) (hn : ks.Nodup) : Bs.AscK ltK d.toList ∧ d.toList.Perm ks := by
  obtain ⟨hz, _, hperm⟩ := hp
  have hz' : d.size = ks.length := by simpa using hz
  have hpm : d.toList.Perm ks := by
    have e1 : d.extract 0 ks.length = d := by rw [← hz']; simp
    have e2 : ks.toArray.extract 0 ks.length = ks.toArray := by
      have : ks.length = ks.toArray.size := by simp
      rw [this]; simp
    rw [e1, e2] at hperm
    simpa using hperm
  refine ⟨?_, hpm⟩
  have hnd : d.toList.Nodup := hpm.nodup_iff.2 hn
  unfold Bs.AscK
  rw [List.pairwise_iff_getElem]
  intro i j hi hj hij
  have hi' : i < d.size := by simpa using hi
  have hj' : j < d.size := by simpa using hj
  have h := hs i j (by omega) hij (by omega)
  rw [getElem!_pos d i hi', getElem!_pos d j hj', ltOfK] at h
  have hne : d[i] ≠ d[j] := by
    intro e
    have e2 : d.toList[i] = d.toList[j] := by simpa using e
    have e3 := (List.getElem_inj hnd).1 e2
    omega
  have ei : d.toList[i] = d[i] := by simp
  have ej : d.toList[j] = d[j] := by simp
  rw [ei, ej]
  unfold ltK at *
  rw [decide_eq_false_iff_not] at h
  rw [decide_eq_true_iff]
  by_cases hlt : d[i].1 < d[j].1 ∨ d[i].1 = d[j].1 ∧ (d[i].2.1 < d[j].2.1 ∨ d[i].2.1 = d[j].2.1 ∧ d[i].2.2 < d[j].2.2)
  · exact hlt
  · exact absurd (Prod.ext (by omega) (Prod.ext (by omega) (by omega))) hne
end Go.Proofs.Ytngkfopdlkddnaa
namespace Go.Proofs.Ytngkfopdlkddnaa
open Go Go.RowKit Go.Sort Go.Maps
/-- A list of keys in memory. -/
def KeysAt (w : World) (v : Value) (ks : List K3) : Prop := (v = .slice none 0 0 ∧ ks = []) ∨ ∃ g cap, v = .slice (some ⟨g, 0, none⟩) ks.length cap ∧ ks.length ≤ cap ∧ HoldsK encK 3 w g 0 ks.toArray
theorem AllKeys.perm {es : List Ent} {ks ds : List K3} (h : AllKeys es ks) (hp : ds.Perm ks) : AllKeys es ds :=
  ⟨fun k hk => h.1 k (hp.mem_iff.1 hk), (hp.map kb).nodup_iff.2 h.2.1, fun x => ((hp.map kb).mem_iff).trans (h.2.2 x)⟩
theorem AllKeys.nodup {es : List Ent} {ks : List K3} (h : AllKeys es ks) : ks.Nodup := List.Pairwise.of_map kb (fun _ _ hne e => hne (congrArg kb e)) h.2.1
theorem nodup_len {β : Type} [DecidableEq β] : ∀ (l m : List β), l.Nodup → (∀ x ∈ l, x ∈ m) → l.length ≤ m.length
  | [], m, _, _ => Nat.zero_le _
  | x :: r, m, hn, hs => by
    have hx := hs x List.mem_cons_self
    rw [List.nodup_cons] at hn
    have h := nodup_len r (m.erase x) hn.2 (fun y hy => (List.mem_erase_of_ne (fun (e : y = x) => hn.1 (by rw [← e]; exact hy))).2 (hs y (List.mem_cons_of_mem _ hy)))
    rw [List.length_erase_of_mem hx] at h
    have := List.length_pos_of_mem hx
    rw [List.length_cons]
    omega
theorem hasE_mem : ∀ {es : List Ent} {x : List UInt8}, hasE es x = true → x ∈ es.map (·.1)
  | [], x, h => by cases h
  | (j, y) :: r, x, h => by
    by_cases e : j = x
    · exact List.mem_map.2 ⟨(j, y), List.mem_cons_self, e⟩
    · have h2 : hasE r x = true := by
        unfold hasE at *
        simpa [getE, e] using h
      rw [List.map_cons]
      exact List.mem_cons_of_mem _ (hasE_mem h2)
theorem AllKeys.len {es : List Ent} {ks : List K3} (h : AllKeys es ks) : ks.length ≤ es.length := by
  have := nodup_len (ks.map kb) (es.map (·.1)) h.2.1 (fun x hx => hasE_mem ((h.2.2 x).1 hx))
  simpa using this
theorem sortRow_calls (base : Nat) (w : World) (v : Value) (ks : List K3) (h : RowK w base v ks) (hn : ks.Nodup) (hl : ks.length ≤ 100000) (hb : base ≤ w.heap.size) (hv : v = .slice none 0 0 ↔ ks = []) :
    Calls Try.prog 67 #[v, .func (.func 49) #[] #[]] w fun e w' =>
      e = .returned (.tuple #[]) ∧ ∃ ds : List K3, Bs.AscK ltK ds ∧ ds.Perm ks ∧ KeysAt w' v ds ∧ Below base w w' := by
  by_cases hz : ks = []
  · subst hz
    rw [hv.2 rfl]
    refine (AnyF.slices_SortFunc_none { laysSort with } none 0 _ w).mono ?_
    rintro e w' ⟨he, rfl⟩
    exact ⟨he, [], List.Pairwise.nil, List.Perm.refl _, .inl ⟨rfl, rfl⟩, Below.refl _ _⟩
  · obtain ⟨A, n, cap, e⟩ : ∃ g n cap, v = .slice (some ⟨g, 0, none⟩) n cap := by
      rcases h.2 with ⟨e, _⟩ | ⟨g, cap, cur, e, _⟩
      · exact absurd (hv.1 e) hz
      · exact ⟨g, _, cap, e⟩
    subst e
    obtain ⟨rfl, hg, hlt, hc, hH⟩ := holds_of_row h
    have hS := sortK_calls A cap ks.toArray w hH hlt (by rw [List.size_toArray]; omega)
    rw [List.size_toArray] at hS
    refine hS.mono ?_
    rintro e w' ⟨he, d', hp, hs, hH', hgr⟩
    obtain ⟨ha, hpm⟩ := asc_of_sorted hp hs hn
    refine ⟨he, d'.toList, ha, hpm, .inr ⟨A, cap, by rw [hpm.length_eq], by rw [hpm.length_eq]; exact hc, by simpa using hH'⟩, ?_⟩
    exact (Below.refl _ w).grown hgr hb (fun j e => by cases e; exact hg)
theorem sorted_calls (B0 b : Nat) (es : List Ent) (w : World) (hB0 : w.cell? ⟨B0, 0, none⟩ = some (.map (some b))) (hM : BMap w b es) (hkeys : ∀ p ∈ es, ∃ k, InK k ∧ p.1 = kb k) (hl : es.length ≤ 100000) :
    Calls Try.prog 47 #[.func (.func 68) #[] #[.pointer (some ⟨B0, 0, none⟩)], .func (.func 49) #[] #[]] w fun e W' =>
      ∃ v ds, e = .returned v ∧ Bs.AscK ltK ds ∧ AllKeys es ds ∧ KeysAt W' v ds ∧ Below w.heap.size w W' := by
  have h := callsIn_wide.1 (collect_in 9 B0 b es w hB0 hM hkeys hl)
  have HC := Lib.hid h
  clear h hB0 hM
  go_enter Try.func47, Try.ntmps47
  go_wp2_with fail
  refine HC.out.mono ?_
  rintro e W' ⟨v, ks, rfl, hk, hr, hnil, hb⟩
  have HS := Lib.hid (sortRow_calls w.heap.size W' v ks hr hk.nodup (Nat.le_trans hk.len hl) hb.size hnil)
  have HB := Lib.hid hb
  have HK := Lib.hid hk
  clear hk hr hnil hb
  go_wp2_with fail
  refine HS.out.mono ?_
  rintro e W2 ⟨rfl, ds, ha, hp, hat, hb2⟩
  have HA := Lib.hid ha
  have HP := Lib.hid hp
  have HT := Lib.hid hat
  have HB2 := Lib.hid hb2
  clear ha hp hat hb2
  go_wp2_with fail
  go_ret
  exact ⟨v, ds, rfl, HA.out, HK.out.perm HP.out, HT.out, HB.out.trans HB2.out⟩
end Go.Proofs.Ytngkfopdlkddnaa
