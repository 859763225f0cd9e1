/- The contracts of package factset's IDs and Facts. | The contract of package factset's Facts. -/
import Derived.Test.YtnndnjnpkjpkpaaGreatDoorPrs
import Derived.Deep.DeepAppendRoom
import Derived.Laws.MakeOwn
import Derived.Deep.AppendLies
import Derived.Great.BuildSlice
namespace Go.Proofs.YtnndnjnpkjpkpaaGreatDoor
open Go.RowKit Go.Maps Go.Sort Go.Shelf
attribute [local go_sem] Oper.semAt_some

theorem infoS : (Tryz.prog.info? 9).map (fun i => (i.zero, i.size, i.bytes)) = some (some (.string ⟨#[]⟩), 1, 16) := by kernel_rfl
theorem wide_of {P : Program} {f : FuncId} {args : Array Value} {w : World} {R : Ending → World → Prop} (m : Nat) (h : Calls P f args w R) : CallsIn Fence.wide m P f args w R := callsIn_wide.2 h
/-- A set, or nil. -/
def SetP (w : World) (q : Option Addr) (es : List Ent) : Prop := (q = none ∧ es = []) ∨ ∃ p b, q = some ⟨p, 0, none⟩ ∧ SetAt w p b es ∧ Good es
theorem LenP (q : Option Addr) (es : List Ent) (w : World) (h : SetP w q es) : Calls Tryz.prog 22 #[.pointer q] w fun e W' => e = .returned (.int .i64 (es.length : Int)) ∧ w = W' := by
  rcases h with ⟨rfl, rfl⟩ | ⟨p, b, rfl, hS, -⟩
  · exact Len_nil w
  · exact Len_calls p b es w hS
theorem own_row {W W' : World} {base : Nat} {e : TypeId} {size g n c k : Nat} {xs : List Value} {row : Option Nat} (h : W.ownsRow base e size (.slice (some ⟨g, 0, none⟩) n c) k xs) (hg : W.grownBy W' row)
    (hr : ∀ r, row = some r → ∃ o : Obj, W.heap[r]? = some o ∧ o.isCells = false) : W'.ownsRow base e size (.slice (some ⟨g, 0, none⟩) n c) k xs := by
  refine row_keep h ?_
  rcases h.2 with ⟨h0, _⟩ | ⟨g', cap', cur, hv, hbg, hgg, _⟩
  · cases h0
  · cases hv
    refine hg.block g (Array.getElem?_eq_some_iff.1 hgg).1 (fun e => ?_)
    obtain ⟨o, h1, h2⟩ := hr g e.symm
    rw [hgg] at h1; cases h1; cases h2
theorem own_box {W W' : World} {B : Nat} {t : TypeId} {v : Value} {row : Option Nat} (h : Boxed W B t v) (hg : W.grownBy W' row) (hr : ∀ r, row = some r → ∃ o : Obj, W.heap[r]? = some o ∧ o.isCells = false) : Boxed W' B t v :=
  h.kept hg (fun e => by
    obtain ⟨o, h1, h2⟩ := hr B e.symm
    unfold Boxed at h
    rw [h] at h1; cases h1; cases h2)
theorem one_str (k : ByteArray) : ∀ u ∈ (#[.string k] : Array Value).toList, u.oneCell' = true := by intro u hu; rw [List.mem_singleton.1 hu]; rfl
theorem stepIn_append_run {F : Fence} {n : Nat} {P : Program} {ops : Array Oper} {o : Oper} {a : Act} {w : World} {K : Act → World → Prop} {Q : Exit → Act → World → Prop} {E : Prop} (hgd : o.guard = none) (s x : Operand) (t : TypeId)
    (ho : o.op = .call { callee := .builtin .append, args := #[s, x], argTypes := #[t, t] }) (v u : Value) (hs : a.eval s = v) (hx : a.eval x = u) {v' : Value} {w' : World}
    (hr : (Builtin.append_ #[t, t] o.type #[v, u]).run P w = .ok v' w') (h : K (a.put o.dst v') w') : if Region.wanted o (yielded ops a.tmps) = true then Oper.wpIn F n P o a w K Q else E := by
  have hw : Region.wanted o (yielded ops a.tmps) = true := by simp [Region.wanted, hgd]
  rw [if_pos hw]
  unfold Oper.wpIn
  refine ⟨by simp [Oper.about, ho, resolve, Target.leads, Sem.run_pure], ?_⟩
  rw [Oper.semAt_plain F _ _ (by rw [ho]; intro c hc'; cases hc')]
  simp [execOp, ho, resolve, invoke, builtin, hs, hx, hr, Result.andThen]
  exact h
/-- What an append in place and a store into its box leave. -/
theorem append_post (t e : TypeId) (i : TypeInfo) (size : Nat) (ht : Tryz.prog.underlying t = some (.slice e)) (hi : Tryz.prog.info? e = some i) (hsize : i.size = size) (base n₀ g B n cap : Nat) (xs : List Value) (cs : Array Value) (w W W3 : World)
    (hr : W.ownsRow base e size (.slice (some ⟨g, 0, none⟩) n cap) n xs) (hx : Boxed W B t (.slice (some ⟨g, 0, none⟩) n cap)) (hB : Below base w W) (hcs : cs.size = size) (hone : ∀ u ∈ cs.toList, u.oneCell' = true) (hroom : n + 1 ≤ cap)
    (hne : g ≠ B) (hg : g < n₀) (hBn : B < n₀) (hgb : base ≤ g) (hBb : base ≤ B) (b3 : Below W.heap.size W W3) :
    W3.cell? ⟨B, 0, none⟩ = some (.slice (some ⟨g, 0, none⟩) n cap) ∧ (W3.alloc (.cells cs e)).cell? ⟨B, 0, none⟩ = some (.slice (some ⟨g, 0, none⟩) n cap) ∧ ∃ w5, (Builtin.append_ #[t, t] t #[.slice (some ⟨g, 0, none⟩) n cap, .slice (some ⟨W3.heap.size, 0, none⟩) 1 1]).run Tryz.prog (W3.alloc (.cells cs e)) = .ok (.slice (some ⟨g, 0, none⟩) (n + 1) cap) w5 ∧
      w5.cell? ⟨B, 0, none⟩ = some (.slice (some ⟨g, 0, none⟩) n cap) ∧ w5.frozen? ⟨B, 0, none⟩ = false ∧
      Hid (KeepsFrom n₀ W (w5.setCell ⟨B, 0, none⟩ (.slice (some ⟨g, 0, none⟩) (n + 1) cap)) ∧ KeepX n₀ g B W (w5.setCell ⟨B, 0, none⟩ (.slice (some ⟨g, 0, none⟩) (n + 1) cap)) ∧
        ((w5.setCell ⟨B, 0, none⟩ (.slice (some ⟨g, 0, none⟩) (n + 1) cap)).ownsRow base e size (.slice (some ⟨g, 0, none⟩) (n + 1) cap) (n + 1) (xs ++ cs.toList) ∧ Boxed (w5.setCell ⟨B, 0, none⟩ (.slice (some ⟨g, 0, none⟩) (n + 1) cap)) B t (.slice (some ⟨g, 0, none⟩) (n + 1) cap)) ∧
        Below base w (w5.setCell ⟨B, 0, none⟩ (.slice (some ⟨g, 0, none⟩) (n + 1) cap))) := by
  have hBl := hx.lt
  have hgl : g < W.heap.size := by
    rcases hr.2 with ⟨h0, _⟩ | ⟨g', cap', cur, hv, hbg, hgg, _⟩
    · cases h0
    · cases hv; exact (Array.getElem?_eq_some_iff.1 hgg).1
  have b4 : Below W.heap.size W (W3.alloc (.cells cs e)) := b3.alloc b3.size _
  have hr4 := row_keep hr (b4.block g hgl)
  have hx4 : Boxed (W3.alloc (.cells cs e)) B t (.slice (some ⟨g, 0, none⟩) n cap) := (b4.block B hBl).trans hx
  obtain ⟨w5, hrun, hr5, hg5⟩ := run_append_own_spare (P := Tryz.prog) (W3.alloc (.cells cs e)) base t t e i size ht hi hsize g n cap xs hr4 ⟨W3.heap.size, 0, none⟩ 1 1 cs.toList (by rw [Array.length_toList, hcs, Nat.one_mul]) (World.news_of_block (heap_alloc_new W3 _)) hone hroom
  have hx5 : Boxed w5 B t (.slice (some ⟨g, 0, none⟩) n cap) := hx4.kept hg5 (fun e => hne (Option.some.inj e).symm)
  have hx3 : Boxed W3 B t (.slice (some ⟨g, 0, none⟩) n cap) := (b3.block B hBl).trans hx
  refine ⟨hx3.cell, hx4.cell, w5, hrun, hx5.cell, hx5.frozen, Lib.hid ?_⟩
  have hfar : ∀ k, k < W.heap.size → k ≠ g → k ≠ B → (w5.setCell ⟨B, 0, none⟩ (.slice (some ⟨g, 0, none⟩) (n + 1) cap)).heap[k]? = W.heap[k]? := fun k hk h1 h2 => by
    rw [heap_setCell_other _ _ _ _ h2, hg5.block k (Nat.lt_of_lt_of_le hk b4.size) (fun e => h1 (Option.some.inj e)), b4.block k hk]
  have hsz : W.heap.size ≤ (w5.setCell ⟨B, 0, none⟩ (.slice (some ⟨g, 0, none⟩) (n + 1) cap)).heap.size := by
    have h1 := hg5.size
    have h2 := b4.size
    simp only [World.size_setCell]
    omega
  refine ⟨⟨hsz, fun k o hk ho _ => ?_⟩, ⟨hsz, fun k o h1 h2 ho _ => ?_⟩, ⟨row_keep hr5 (heap_setCell_other _ _ _ _ hne), ?_⟩, ?_⟩
  · rw [hfar k (Array.getElem?_eq_some_iff.1 ho).1 (by omega) (by omega)]; exact ho
  · rw [hfar k (Array.getElem?_eq_some_iff.1 ho).1 h1 h2]; exact ho
  · show _ = _
    rw [heap_setCell_same _ _ _ _ _ _ hx5]
    rfl
  · have hbW : base ≤ W.heap.size := by omega
    have h6 : Below base w w5 := (hB.trans (b4.mono hbW)).grown hg5 (Nat.le_trans hbW b4.size) (fun j e => by cases e; exact hgb)
    exact h6.setCell (p := ⟨B, 0, none⟩) hBb _
set_option maxRecDepth 100000 in
set_option maxHeartbeats 2000000 in
theorem IDs_in (q : Option Addr) (fs : List OkF) (w : World) (hS : SetP w q (fs.map entF)) (hl : fs.length ≤ 4000) :
    CallsIn Fence.wide 9 Tryz.prog 16 #[.pointer q] w fun e W' => ∃ v, e = .returned v ∧ RowS W' w.heap.size v (fs.map fun x => keyF x.1) ∧ Below w.heap.size w W' := by
  obtain ⟨i0, hi, hz0, hz1, hz2⟩ := info_parts infoS
  have hlen := LenP q _ w hS
  rw [List.length_map] at hlen
  have hmk := run_makeSlice (P := Tryz.prog) w 24 9 i0 (.string ⟨#[]⟩) Tryz.underlying24 hi hz0 .i64 .i64 0 fs.length (by omega) (by omega) (by rw [hz1, Int.toNat_natCast]; omega) (by rw [hz2]; omega) (by omega)
  rw [Int.toNat_natCast, Int.toNat_zero, hz1, Nat.mul_one] at hmk
  have hrow0 : (w.alloc (.cells (madeCells (.string ⟨#[]⟩ : Value).cells fs.length) 9)).ownsRow w.heap.size 9 1 (.slice (some ⟨w.heap.size, 0, none⟩) 0 fs.length) 0 [] :=
    World.ownsRow_made w _ fs.length (Nat.le_refl _) (by unfold maxLen; omega) (by rw [size_madeCells, Nat.mul_one])
  generalize madeCells (.string ⟨#[]⟩ : Value).cells fs.length = C0 at *
  have hf1 : Fence.wide.fn 22 := trivial
  have hf2 : Fence.wide.fn 36 := trivial
  refine callsIn_of_wp_marks Tryz.func16 rfl trivial ?_ rfl
  simp only [Tryz.ntmps16, List.size_toArray, List.length_cons, List.length_nil, Nat.reduceAdd, Nat.reduceSub, Array.replicate_succ, Array.replicate_zero, List.push_toArray, List.append_toArray, List.nil_append, List.cons_append]
  gi_wp2_with (first
    | (gi_at_call 22; refine (wide_of _ hlen).mono ?_; rintro e w' ⟨rfl, rfl⟩)
    | (gi_at_call 36; refine (wide_of _ (pairs_calls _ _)).mono ?_; rintro e w' ⟨rfl, rfl⟩))
  have hsz : ((((w.alloc (.cells C0 9)).alloc (.cells #[.slice (some ⟨w.heap.size, 0, none⟩) 0 fs.length] 24)).alloc (.cells #[.pointer q] 27))).heap.size = w.heap.size + 1 + 1 + 1 := by simp
  have hrow := (hrow0.alloc (.cells #[.slice (some ⟨w.heap.size, 0, none⟩) 0 fs.length] 24)).alloc (.cells #[.pointer q] 27)
  have hbx : Boxed ((((w.alloc (.cells C0 9)).alloc (.cells #[.slice (some ⟨w.heap.size, 0, none⟩) 0 fs.length] 24)).alloc (.cells #[.pointer q] 27))) (w.heap.size + 1) 24 (.slice (some ⟨w.heap.size, 0, none⟩) 0 fs.length) := by
    have := (Boxed.new (w.alloc (.cells C0 9)) 24 (.slice (some ⟨w.heap.size, 0, none⟩) 0 fs.length)).alloc (.cells #[.pointer q] 27)
    rwa [World.size_alloc] at this
  have hbq : (((w.alloc (.cells C0 9)).alloc (.cells #[.slice (some ⟨w.heap.size, 0, none⟩) 0 fs.length] 24)).alloc (.cells #[.pointer q] 27)).cell? ⟨w.heap.size + 1 + 1, 0, none⟩ = some (.pointer q) := by
    have := (Boxed.new ((w.alloc (.cells C0 9)).alloc (.cells #[.slice (some ⟨w.heap.size, 0, none⟩) 0 fs.length] 24)) 27 (.pointer q)).cell
    rwa [World.size_alloc, World.size_alloc] at this
  have hB0 : Below w.heap.size w (((w.alloc (.cells C0 9)).alloc (.cells #[.slice (some ⟨w.heap.size, 0, none⟩) 0 fs.length] 24)).alloc (.cells #[.pointer q] 27)) :=
    ((((Below.refl _ w).alloc (Nat.le_refl _) _).alloc (by simp) _).alloc (by simp; omega) _)
  generalize ((w.alloc (.cells C0 9)).alloc (.cells #[.slice (some ⟨w.heap.size, 0, none⟩) 0 fs.length] 24)).alloc (.cells #[.pointer q] 27) = W0 at *
  have hP : PtrAt W0 q fs (w.heap.size + 1 + 1 + 1) w.heap.size (w.heap.size + 1) := by
    rcases hS with ⟨h1, h2⟩ | ⟨p, b, e, hS, hG⟩
    · exact .inl ⟨h1, List.map_eq_nil_iff.1 h2⟩
    · have l1 := hS.ltp
      have l2 := hS.ltb
      exact .inr ⟨p, b, e, hS.below hB0, hG.1, hl, by omega, by omega, by omega, by omega, by omega, by omega⟩
  clear hmk hrow0 hlen hS
  refine wpIn_rangeFunc_ownG rfl (by omega) (gf := 52) (lb := #[.pointer (some ⟨w.heap.size + 1 + 1, 0, none⟩)]) rfl trivial (enters_of Tryz.func52 (by kernel_rfl) rfl)
    (pairs_stops 8 (w.heap.size + 1 + 1) (w.heap.size + 1 + 1 + 1) w.heap.size (w.heap.size + 1) (by omega) q fs W0 hbq hP (by omega) (by omega) (by omega) (by omega) (by omega) (by omega))
    (fun h k => h.trans k) (fun W l o o' h1 h2 h3 _ => KeepX.put W l o o' (by omega) h2 h3) (Below.refl _ _) (fun _ => rfl)
    (fun pre W => (W.ownsRow w.heap.size 9 1 (.slice (some ⟨w.heap.size, 0, none⟩) pre.length fs.length) pre.length (cellsS (pre.map fun x => keyF x.1)) ∧ Boxed W (w.heap.size + 1) 24 (.slice (some ⟨w.heap.size, 0, none⟩) pre.length fs.length)) ∧ Below w.heap.size w W)
    (fun _ _ _ => False)
    (OwnFrom.and (Own.from (fun s A B row hs hg hr => ⟨own_row hs.1 hg hr, own_box hs.2 hg hr⟩) _) (ownFrom_below (Nat.le_refl _) (by omega)))
    (fun _ _ _ _ _ hs _ _ => hs)
    ⟨⟨hrow, hbx⟩, hB0⟩
    (fun x => { tmps := #[.pointer q, undef, .slice none 0 0, .pointer (some ⟨w.heap.size + 1, 0, none⟩), .string ⟨(keyF x.1).toArray⟩, .pointer q, .int .i64 (fs.length : Int), .slice (some ⟨w.heap.size, 0, none⟩) 0 fs.length, .pointer q, .func (.func 52) #[] #[.pointer (some ⟨w.heap.size + 1 + 1, 0, none⟩)], .string ⟨(keyF x.1).toArray⟩, valF x.1, undef, undef, undef, undef, undef, undef], defers := [] }) ?assign ?body ?done ?stop
  case assign =>
    intro l x W K hK
    gi_wp2
    exact hK
  case body =>
    rintro l pre x W ⟨⟨hr, hx⟩, hB⟩ hlt
    have Hsn : cellsS (pre.map fun x => keyF x.1) ++ [.string ⟨(keyF x.1).toArray⟩] = cellsS ((pre ++ [x]).map fun x => keyF x.1) := by rw [List.map_append, List.map_singleton, cellsS_snoc]
    have HL : pre.length + 1 = (pre ++ [x]).length := by simp
    have hks : (⟨(keyF x.1).toArray⟩ : ByteArray).size ≤ 281474976710656 := by show (keyF x.1).length ≤ _; rw [keyF_length]; decide
    generalize (⟨(keyF x.1).toArray⟩ : ByteArray) = key at *
    have q1 : (#[Value.string key]).size = 1 := rfl
    have o1 : pre.length + 1 ≤ fs.length := by omega
    have o2 : w.heap.size ≠ w.heap.size + 1 := by omega
    have o3 : w.heap.size < w.heap.size + 1 + 1 + 1 := by omega
    have o4 : w.heap.size + 1 < w.heap.size + 1 + 1 + 1 := by omega
    have o5 : w.heap.size ≤ w.heap.size + 1 := by omega
    have q2 := append_post 24 9 i0 1 Tryz.underlying24 hi hz1 w.heap.size (w.heap.size + 1 + 1 + 1) w.heap.size (w.heap.size + 1) pre.length fs.length (cellsS (pre.map fun x => keyF x.1)) #[.string key] w W
    have q3 := fun W3 => q2 W3 hr
    have q4 := fun W3 => q3 W3 hx
    have q5 := fun W3 => q4 W3 hB
    have q6 := fun W3 => q5 W3 q1
    have q7 := fun W3 => q6 W3 (one_str key)
    clear q2 q3 q4 q5 q6
    have q2 := fun W3 => q7 W3 o1 o2 o3 o4 (Nat.le_refl _) o5
    clear q7
    have HN := Lib.hid q2
    clear q1 q2 o1 o2 o3 o4 o5
    rw [show (#[.string key] : Array Value).toList = [.string key] from rfl, Hsn] at HN
    have HC := Lib.hid (fun W => Clone_calls key W hks)
    replace HL := Lib.hid HL
    clear Hsn hks
    have hc := hx.cell
    clear hr hx hB hlt
    gi_wp2
    refine wpIn_region_any (by kernel_rfl) ?_
    change wpAnyIn _ _ _ _ _ _ _ _ _ (World.drew _)
    refine wpAnyIn_ready (rs := [0, 1]) (by kernel_rfl) (by simp) ?_
    refine AllReadyIn.cons rfl (fun K hK => ?_) ?_
    · go_simp
      refine hK _ _ ?_
      clear hK K
      refine wpAnyIn_ready (rs := [1]) (by kernel_rfl) (by simp) ?_
      refine AllReadyIn.cons rfl (fun K hK => ?_) ?_
      · go_simp
        refine hK _ _ ?_
        clear hK K
        refine wpAnyIn_ready (rs := [2]) (by kernel_rfl) (by simp) ?_
        refine AllReadyIn.cons rfl (fun K hK => ?_) ?_
        · go_simp
          refine ⟨trivial, ?_⟩
          refine (CallsIn.inRound l (wide_of _ (HC.out _))).mono ?_
          rintro e W3 ⟨rfl, b3⟩
          obtain ⟨hc3, hc4, w5, happ, hc5, hf5, hP⟩ := HN.out W3 ((Below.refl _ W).drew.trans b3)
          gi_wp2
          refine wpAnyIn_ready (rs := [3]) (by kernel_rfl) (by simp) ?_
          refine AllReadyIn.cons rfl (fun K hK => ?_) ?_
          · go_simp
            refine hK _ _ ?_
            clear hK K
            refine wpAnyIn_ready (rs := [4]) (by kernel_rfl) (by simp) ?_
            refine AllReadyIn.cons rfl (fun K hK => ?_) ?_
            · refine stepIn_append_run rfl _ _ _ rfl _ _ rfl rfl happ (hK _ _ ?_)
              clear hK K
              simp only [Act.put]
              refine wpAnyIn_ready (rs := [5]) (by kernel_rfl) (by simp) ?_
              refine AllReadyIn.cons rfl (fun K hK => ?_) ?_
              · go_simp
                refine hK _ _ ?_
                clear hK K
                refine wpAnyIn_done (by kernel_rfl) ?_ _
                gi_wp2
                have h := hP.out
                rw [HL.out] at h ⊢
                rw [hsz]
                exact h
              · exact AllReadyIn.nil
            · exact AllReadyIn.nil
          exact AllReadyIn.nil
        exact AllReadyIn.nil
      exact AllReadyIn.nil
    refine AllReadyIn.cons rfl (fun K hK => ?_) ?_
    · go_simp
      refine hK _ _ ?_
      clear hK K
      refine wpAnyIn_ready (rs := [0, 2]) (by kernel_rfl) (by simp) ?_
      refine AllReadyIn.cons rfl (fun K hK => ?_) ?_
      · go_simp
        refine hK _ _ ?_
        clear hK K
        refine wpAnyIn_ready (rs := [2]) (by kernel_rfl) (by simp) ?_
        refine AllReadyIn.cons rfl (fun K hK => ?_) ?_
        · go_simp
          refine ⟨trivial, ?_⟩
          refine (CallsIn.inRound l (wide_of _ (HC.out _))).mono ?_
          rintro e W3 ⟨rfl, b3⟩
          obtain ⟨hc3, hc4, w5, happ, hc5, hf5, hP⟩ := HN.out W3 ((Below.refl _ W).drew.trans b3)
          gi_wp2
          refine wpAnyIn_ready (rs := [3]) (by kernel_rfl) (by simp) ?_
          refine AllReadyIn.cons rfl (fun K hK => ?_) ?_
          · go_simp
            refine hK _ _ ?_
            clear hK K
            refine wpAnyIn_ready (rs := [4]) (by kernel_rfl) (by simp) ?_
            refine AllReadyIn.cons rfl (fun K hK => ?_) ?_
            · refine stepIn_append_run rfl _ _ _ rfl _ _ rfl rfl happ (hK _ _ ?_)
              clear hK K
              simp only [Act.put]
              refine wpAnyIn_ready (rs := [5]) (by kernel_rfl) (by simp) ?_
              refine AllReadyIn.cons rfl (fun K hK => ?_) ?_
              · go_simp
                refine hK _ _ ?_
                clear hK K
                refine wpAnyIn_done (by kernel_rfl) ?_ _
                gi_wp2
                have h := hP.out
                rw [HL.out] at h ⊢
                rw [hsz]
                exact h
              · exact AllReadyIn.nil
            · exact AllReadyIn.nil
          exact AllReadyIn.nil
        exact AllReadyIn.nil
      refine AllReadyIn.cons rfl (fun K hK => ?_) ?_
      · go_simp
        refine ⟨trivial, ?_⟩
        refine (CallsIn.inRound l (wide_of _ (HC.out _))).mono ?_
        rintro e W3 ⟨rfl, b3⟩
        obtain ⟨hc3, hc4, w5, happ, hc5, hf5, hP⟩ := HN.out W3 ((Below.refl _ W).drew.trans b3)
        gi_wp2
        refine wpAnyIn_ready (rs := [0, 3]) (by kernel_rfl) (by simp) ?_
        refine AllReadyIn.cons rfl (fun K hK => ?_) ?_
        · go_simp
          refine hK _ _ ?_
          clear hK K
          refine wpAnyIn_ready (rs := [3]) (by kernel_rfl) (by simp) ?_
          refine AllReadyIn.cons rfl (fun K hK => ?_) ?_
          · go_simp
            refine hK _ _ ?_
            clear hK K
            refine wpAnyIn_ready (rs := [4]) (by kernel_rfl) (by simp) ?_
            refine AllReadyIn.cons rfl (fun K hK => ?_) ?_
            · refine stepIn_append_run rfl _ _ _ rfl _ _ rfl rfl happ (hK _ _ ?_)
              clear hK K
              simp only [Act.put]
              refine wpAnyIn_ready (rs := [5]) (by kernel_rfl) (by simp) ?_
              refine AllReadyIn.cons rfl (fun K hK => ?_) ?_
              · go_simp
                refine hK _ _ ?_
                clear hK K
                refine wpAnyIn_done (by kernel_rfl) ?_ _
                gi_wp2
                have h := hP.out
                rw [HL.out] at h ⊢
                rw [hsz]
                exact h
              · exact AllReadyIn.nil
            · exact AllReadyIn.nil
          exact AllReadyIn.nil
        refine AllReadyIn.cons rfl (fun K hK => ?_) ?_
        · go_simp
          refine hK _ _ ?_
          clear hK K
          refine wpAnyIn_ready (rs := [0]) (by kernel_rfl) (by simp) ?_
          refine AllReadyIn.cons rfl (fun K hK => ?_) ?_
          · go_simp
            refine hK _ _ ?_
            clear hK K
            refine wpAnyIn_ready (rs := [4]) (by kernel_rfl) (by simp) ?_
            refine AllReadyIn.cons rfl (fun K hK => ?_) ?_
            · refine stepIn_append_run rfl _ _ _ rfl _ _ rfl rfl happ (hK _ _ ?_)
              clear hK K
              simp only [Act.put]
              refine wpAnyIn_ready (rs := [5]) (by kernel_rfl) (by simp) ?_
              refine AllReadyIn.cons rfl (fun K hK => ?_) ?_
              · go_simp
                refine hK _ _ ?_
                clear hK K
                refine wpAnyIn_done (by kernel_rfl) ?_ _
                gi_wp2
                have h := hP.out
                rw [HL.out] at h ⊢
                rw [hsz]
                exact h
              · exact AllReadyIn.nil
            · exact AllReadyIn.nil
          exact AllReadyIn.nil
        exact AllReadyIn.nil
      exact AllReadyIn.nil
    exact AllReadyIn.nil
  case done =>
    rintro D ys W hD rfl ⟨⟨hr, hx⟩, hB⟩ hK
    have hc := hx.cell
    gi_wp2
    refine ⟨by simp, .inl ⟨_, _, rfl, run_takeDeferred hK, ?_⟩⟩
    have hDl := (Array.getElem?_eq_some_iff.1 hK).1
    refine ⟨_, results_tmp rfl _ _ _, _, rfl, ?_, hB.trans (belowK_b (w := w) (Nat.le_refl _) W D _ _ (by omega) hK rfl rfl)⟩
    have := ownsRow_putObj hr (.deferred none) hK rfl
    unfold RowS
    rw [List.length_map]
    exact this
  case stop =>
    rintro D c pre W _ _ h _
    exact h.elim
theorem IDs_calls (q : Option Addr) (es : List Ent) (w : World) (hS : SetP w q es) :
    Calls Tryz.prog 16 #[.pointer q] w fun e W' => ∃ v, e = .returned v ∧ RowS W' w.heap.size v (es.map (·.1)) ∧ Below w.heap.size w W' := by
  have hf : ∃ fs : List OkF, es = fs.map entF := by
    rcases hS with ⟨_, rfl⟩ | ⟨p, b, _, _, hG⟩
    · exact ⟨[], rfl⟩
    · exact facts_list hG.2.1
  obtain ⟨fs, rfl⟩ := hf
  have hl : fs.length ≤ 4000 := by
    rcases hS with ⟨_, h⟩ | ⟨p, b, _, _, hG⟩
    · rw [List.map_eq_nil_iff.1 h]; simp
    · have := hG.2.2; rwa [List.length_map] at this
  have := callsIn_wide.1 (IDs_in q fs w hS hl)
  rw [List.map_map]
  exact this
end Go.Proofs.YtnndnjnpkjpkpaaGreatDoor
namespace Go.Proofs.YtnndnjnpkjpkpaaGreatDoor
open Go.RowKit Go.Maps Go.Sort Go.Shelf
attribute [local go_sem] Oper.semAt_some

theorem stepIn_load_row {F : Fence} {n : Nat} {P : Program} {ops : Array Oper} {o : Oper} {a : Act} {w : World} {K : Act → World → Prop} {Q : Exit → Act → World → Prop} {E : Prop} (hgd : o.guard = none) (ty : TypeId) (x : Operand) (ho : o.op = .load ty x)
    (g : Nat) (hx : a.eval x = .pointer (some ⟨g, 0, none⟩)) (t : TypeId) (cs : Array Value) (fr : Nat × Nat) (d : TypeDesc) (hg : w.heap[g]? = some (.cells cs t fr))
    (hu : P.underlying ty = some d) (hd : (match d with | .struct _ | .array _ _ => true | _ => false) = true) (hi : (P.info? ty).map (·.size) = some cs.size)
    (h : K (a.put o.dst (.agg cs)) w) : if Region.wanted o (yielded ops a.tmps) = true then Oper.wpIn F n P o a w K Q else E := by
  have hw : Region.wanted o (yielded ops a.tmps) = true := by simp [Region.wanted, hgd]
  rw [if_pos hw]
  refine ⟨by simp [Oper.about, ho], ?_⟩
  rw [Oper.semAt_plain F _ _ (by rw [ho]; intro c hc; cases hc)]
  simp only [execOp, ho, hx, Instr.loadAt, Instr.sureAddr, Sem.run_bind, Sem.run_pure, Result.andThen_ok, run_loadVar_row w g t ty cs fr d hg hu hd hi]
  exact h
theorem stepIn_build {F : Fence} {n : Nat} {P : Program} {ops : Array Oper} {o : Oper} {a : Act} {w : World} {K : Act → World → Prop} {Q : Exit → Act → World → Prop} {E : Prop} (hgd : o.guard = none) (t : TypeId) (x : Operand) (ho : o.op = .buildSlice t 1 #[(0, x)])
    (u : Value) (hx : a.eval x = u) {v' : Value} {w' : World} (hr : (Instr.buildSlice t 1 #[(0, u)]).run P w = .ok v' w')
    (h : K (a.put o.dst v') w') : if Region.wanted o (yielded ops a.tmps) = true then Oper.wpIn F n P o a w K Q else E := by
  have hw : Region.wanted o (yielded ops a.tmps) = true := by simp [Region.wanted, hgd]
  rw [if_pos hw]
  refine ⟨by simp [Oper.about, ho], ?_⟩
  rw [Oper.semAt_plain F _ _ (by rw [ho]; intro c hc; cases hc)]
  simp only [execOp, ho, hx, List.map_toArray, List.map_cons, List.map_nil, Sem.run_bind, Sem.run_pure, Result.andThen_ok, hr]
  exact h
theorem build_fact (v : Nat → Int) (t : ByteArray) (w : World) : (Instr.buildSlice 22 1 #[(0, .agg (factC v t))]).run Tryz.prog w = .ok (.slice (some ⟨w.heap.size, 0, none⟩) 1 1) (w.alloc (.cells (factC v t) 40)) := by
  obtain ⟨i0, hi, hz0, hz1, hz2⟩ := info_parts (show (Tryz.prog.info? 40).map (fun i => (i.zero, i.size, i.bytes)) = some (some (.agg (factC (fun _ => 0) ⟨#[]⟩)), 18, 152) by kernel_rfl)
  refine run_buildSlice w _ _ 1 _ (factC v t) i0 _ Tryz.underlying22 hi hz0 (by rw [hz1]; decide) (by rw [hz1]; decide) ?_
  rw [hz1]
  kernel_rfl
theorem infoF : (Tryz.prog.info? 40).map (fun i => (i.zero, i.size, i.bytes)) = some (some (.agg (factC (fun _ => 0) ⟨#[]⟩)), 18, 152) := by kernel_rfl
/-- The cells of facts, one after the other. -/
def cellsF (fs : List OkF) : List Value := fs.flatMap fun x => (factC x.1.1 x.1.2).toList
theorem cellsF_snoc (fs : List OkF) (x : OkF) : cellsF (fs ++ [x]) = cellsF fs ++ (factC x.1.1 x.1.2).toList := by unfold cellsF; rw [List.flatMap_append]; simp
theorem cellsF_length (fs : List OkF) : (cellsF fs).length = fs.length * 18 := by
  induction fs with
  | nil => rfl
  | cons x r ih =>
    show ((factC x.1.1 x.1.2).toList ++ cellsF r).length = _
    have h18 : (factC x.1.1 x.1.2).toList.length = 18 := rfl
    rw [List.length_append, ih, h18, List.length_cons]
    omega
/-- A row of facts of one's own. -/
def RowF (w : World) (base : Nat) (v : Value) (fs : List OkF) : Prop := w.ownsRow base 40 18 v fs.length (cellsF fs)
set_option maxRecDepth 100000 in
set_option maxHeartbeats 2000000 in
theorem Facts_in (q : Option Addr) (fs : List OkF) (w : World) (hS : SetP w q (fs.map entF)) (hl : fs.length ≤ 4000) :
    CallsIn Fence.wide 9 Tryz.prog 18 #[.pointer q] w fun e W' => ∃ v, e = .returned v ∧ RowF W' w.heap.size v fs ∧ Below w.heap.size w W' := by
  obtain ⟨i0, hi, hz0, hz1, hz2⟩ := info_parts infoF
  have hlen := LenP q _ w hS
  rw [List.length_map] at hlen
  have hmk := run_makeSlice (P := Tryz.prog) w 22 40 i0 _ Tryz.underlying22 hi hz0 .i64 .i64 0 fs.length (by omega) (by omega) (by rw [hz1, Int.toNat_natCast]; omega) (by rw [hz2]; omega) (by omega)
  rw [Int.toNat_natCast, Int.toNat_zero, hz1] at hmk
  have hrow0 : (w.alloc (.cells (madeCells (Value.agg (factC (fun _ => 0) ⟨#[]⟩)).cells (fs.length * 18)) 40)).ownsRow w.heap.size 40 18 (.slice (some ⟨w.heap.size, 0, none⟩) 0 fs.length) 0 [] :=
    World.ownsRow_made w _ fs.length (Nat.le_refl _) (by unfold maxLen; omega) (by rw [size_madeCells])
  generalize madeCells (Value.agg (factC (fun _ => 0) ⟨#[]⟩)).cells (fs.length * 18) = C0 at *
  have hf1 : Fence.wide.fn 22 := trivial
  have hf2 : Fence.wide.fn 36 := trivial
  refine callsIn_of_wp_marks Tryz.func18 rfl trivial ?_ rfl
  simp only [Tryz.ntmps18, List.size_toArray, List.length_cons, List.length_nil, Nat.reduceAdd, Nat.reduceSub, Array.replicate_succ, Array.replicate_zero, List.push_toArray, List.append_toArray, List.nil_append, List.cons_append]
  gi_wp2_with (first
    | (gi_at_call 22; refine (wide_of _ hlen).mono ?_; rintro e w' ⟨rfl, rfl⟩)
    | (gi_at_call 36; refine (wide_of _ (pairs_calls _ _)).mono ?_; rintro e w' ⟨rfl, rfl⟩))
  have hsz : ((((w.alloc (.cells C0 40)).alloc (.cells #[.slice (some ⟨w.heap.size, 0, none⟩) 0 fs.length] 22)).alloc (.cells #[.pointer q] 27))).heap.size = w.heap.size + 1 + 1 + 1 := by simp
  have hrow := (hrow0.alloc (.cells #[.slice (some ⟨w.heap.size, 0, none⟩) 0 fs.length] 22)).alloc (.cells #[.pointer q] 27)
  have hbx : Boxed ((((w.alloc (.cells C0 40)).alloc (.cells #[.slice (some ⟨w.heap.size, 0, none⟩) 0 fs.length] 22)).alloc (.cells #[.pointer q] 27))) (w.heap.size + 1) 22 (.slice (some ⟨w.heap.size, 0, none⟩) 0 fs.length) := by
    have := (Boxed.new (w.alloc (.cells C0 40)) 22 (.slice (some ⟨w.heap.size, 0, none⟩) 0 fs.length)).alloc (.cells #[.pointer q] 27)
    rwa [World.size_alloc] at this
  have hbq : (((w.alloc (.cells C0 40)).alloc (.cells #[.slice (some ⟨w.heap.size, 0, none⟩) 0 fs.length] 22)).alloc (.cells #[.pointer q] 27)).cell? ⟨w.heap.size + 1 + 1, 0, none⟩ = some (.pointer q) := by
    have := (Boxed.new ((w.alloc (.cells C0 40)).alloc (.cells #[.slice (some ⟨w.heap.size, 0, none⟩) 0 fs.length] 22)) 27 (.pointer q)).cell
    rwa [World.size_alloc, World.size_alloc] at this
  have hB0 : Below w.heap.size w (((w.alloc (.cells C0 40)).alloc (.cells #[.slice (some ⟨w.heap.size, 0, none⟩) 0 fs.length] 22)).alloc (.cells #[.pointer q] 27)) :=
    ((((Below.refl _ w).alloc (Nat.le_refl _) _).alloc (by simp) _).alloc (by simp; omega) _)
  generalize ((w.alloc (.cells C0 40)).alloc (.cells #[.slice (some ⟨w.heap.size, 0, none⟩) 0 fs.length] 22)).alloc (.cells #[.pointer q] 27) = W0 at *
  have hP : PtrAt W0 q fs (w.heap.size + 1 + 1 + 1) w.heap.size (w.heap.size + 1) := by
    rcases hS with ⟨h1, h2⟩ | ⟨p, b, e, hS, hG⟩
    · exact .inl ⟨h1, List.map_eq_nil_iff.1 h2⟩
    · have l1 := hS.ltp
      have l2 := hS.ltb
      exact .inr ⟨p, b, e, hS.below hB0, hG.1, hl, by omega, by omega, by omega, by omega, by omega, by omega⟩
  clear hmk hrow0 hlen hS
  refine wpIn_rangeFunc_ownH rfl (by omega) (gf := 52) (lb := #[.pointer (some ⟨w.heap.size + 1 + 1, 0, none⟩)]) rfl trivial (enters_of Tryz.func52 (by kernel_rfl) rfl)
    (pairs_stops 8 (w.heap.size + 1 + 1) (w.heap.size + 1 + 1 + 1) w.heap.size (w.heap.size + 1) (by omega) q fs W0 hbq hP (by omega) (by omega) (by omega) (by omega) (by omega) (by omega))
    (fun h k => h.trans k) (fun W l o o' h1 h2 h3 _ => KeepX.put W l o o' (by omega) h2 h3) (Below.refl _ _) (fun _ => rfl)
    (fun pre W => (W.ownsRow w.heap.size 40 18 (.slice (some ⟨w.heap.size, 0, none⟩) pre.length fs.length) pre.length (cellsF pre) ∧ Boxed W (w.heap.size + 1) 22 (.slice (some ⟨w.heap.size, 0, none⟩) pre.length fs.length)) ∧ Below w.heap.size w W)
    (fun _ _ _ => False)
    (OwnFrom.and (Own.from (fun s A B row hs hg hr => ⟨own_row hs.1 hg hr, own_box hs.2 hg hr⟩) _) (ownFrom_below (Nat.le_refl _) (by omega)))
    (fun _ _ _ _ _ hs _ _ => hs)
    ⟨⟨hrow, hbx⟩, hB0⟩
    (fun x a' W => ∃ Bx, w.heap.size + 1 < Bx ∧ W.heap[Bx]? = some (.cells (factC x.1.1 x.1.2) 40 (0, 0)) ∧ a' = { tmps := #[.pointer q, undef, .slice none 0 0, .pointer (some ⟨w.heap.size + 1, 0, none⟩), undef, .pointer (some ⟨Bx, 0, none⟩), .pointer q, .int .i64 (fs.length : Int), .slice (some ⟨w.heap.size, 0, none⟩) 0 fs.length, .pointer q, .func (.func 52) #[] #[.pointer (some ⟨w.heap.size + 1 + 1, 0, none⟩)], .string ⟨(keyF x.1).toArray⟩, valF x.1, undef, undef, undef, undef, undef, undef], defers := [] })
    ?hax ?assign ?body ?done ?stop
  case hax =>
    rintro x a' s A B row ⟨Bx, h1, h2, h3⟩ hg hr
    refine ⟨Bx, h1, (hg.block Bx (Array.getElem?_eq_some_iff.1 h2).1 (fun e => ?_)).trans h2, h3⟩
    obtain ⟨_, o, h4, h5⟩ := hr Bx e.symm
    rw [h2] at h4; cases h4; cases h5
  case assign =>
    rintro l pre x W K ⟨⟨hr, hx⟩, hB⟩ hK
    have hone := factC_one x.1.1 x.1.2
    have hlt := hx.lt
    gi_wp2_with (refine wpListIn_store_row rfl 40 _ _ rfl W.heap.size (factC x.1.1 x.1.2) rfl rfl 40 (factC (fun _ => 0) ⟨#[]⟩) (heap_new W _) (hiC _ _) rfl hone ?_)
    rw [World.setRow_alloc_new]
    refine hK _ _ ((KeepsOthers.alloc _ _).from _) ⟨by simp, fun k o _ _ ho _ => (Below.heap_alloc _ _ _ (Array.getElem?_eq_some_iff.1 ho).1).trans ho⟩ ⟨⟨hr.alloc _, hx.alloc _⟩, hB.alloc hB.size _⟩ ⟨W.heap.size, by omega, heap_new W _, rfl⟩
  case body =>
    rintro l pre x a' W hll hrl ⟨⟨hr, hx⟩, hB⟩ ⟨Bx, hBx, hF, rfl⟩ hlt
    have Hsn : cellsF pre ++ (factC x.1.1 x.1.2).toList = cellsF (pre ++ [x]) := (cellsF_snoc pre x).symm
    have HL : pre.length + 1 = (pre ++ [x]).length := by simp
    have htx : x.1.2.size ≤ 281474976710656 := by have := good_text x.2; omega
    have HC := Lib.hid (fun W => apart_calls x.1.1 x.1.2 W htx)
    have hone := factC_one x.1.1 x.1.2
    have q1 : (factC x.1.1 x.1.2).size = 18 := rfl
    have hsi : (Tryz.prog.info? 40).map (·.size) = some (factC x.1.1 x.1.2).size := hiC _ _
    have hvx : valF x.1 = .agg (factC x.1.1 x.1.2) := rfl
    rw [hvx]
    clear hvx
    have Hbd := Lib.hid (fun W => build_fact x.1.1 x.1.2 W)
    generalize factC x.1.1 x.1.2 = c at *
    generalize (⟨(keyF x.1).toArray⟩ : ByteArray) = key at *
    have hone' : ∀ u ∈ c.toList, u.oneCell' = true := fun u hu => Array.all_eq_true_iff_forall_mem.1 hone u (Array.mem_def.2 hu)
    have o1 : pre.length + 1 ≤ fs.length := by omega
    have o2 : w.heap.size ≠ w.heap.size + 1 := by omega
    have o3 : w.heap.size < w.heap.size + 1 + 1 + 1 := by omega
    have o4 : w.heap.size + 1 < w.heap.size + 1 + 1 + 1 := by omega
    have o5 : w.heap.size ≤ w.heap.size + 1 := by omega
    have q2 := append_post 22 40 i0 18 Tryz.underlying22 hi hz1 w.heap.size (w.heap.size + 1 + 1 + 1) w.heap.size (w.heap.size + 1) pre.length fs.length (cellsF pre) c w W
    have q3 := fun W3 => q2 W3 hr
    have q4 := fun W3 => q3 W3 hx
    have q5 := fun W3 => q4 W3 hB
    have q6 := fun W3 => q5 W3 q1
    have q7 := fun W3 => q6 W3 hone'
    clear q2 q3 q4 q5 q6
    have q2 := fun W3 => q7 W3 o1 o2 o3 o4 (Nat.le_refl _) o5
    clear q7
    have HN := Lib.hid q2
    clear q1 q2 o1 o2 o3 o4 o5 hone hone'
    rw [Hsn] at HN
    replace HL := Lib.hid HL
    have hFd : W.drew.heap[Bx]? = some (.cells c 40 (0, 0)) := hF
    have hc := hx.cell
    clear Hsn htx hr hx hB hlt hF
    gi_wp2
    refine wpIn_region_any (by kernel_rfl) ?_
    change wpAnyIn _ _ _ _ _ _ _ _ _ (World.drew _)
    refine wpAnyIn_ready (rs := [0, 1]) (by kernel_rfl) (by simp) ?_
    refine AllReadyIn.cons rfl (fun K hK => ?_) ?_
    · go_simp
      refine hK _ _ ?_
      clear hK K
      refine wpAnyIn_ready (rs := [1]) (by kernel_rfl) (by simp) ?_
      refine AllReadyIn.cons rfl (fun K hK => ?_) ?_
      · refine stepIn_load_row rfl 40 _ rfl Bx rfl _ _ _ _ hFd Tryz.underlying40 rfl hsi (hK _ _ ?_)
        clear hK K
        simp only [Act.put]
        refine wpAnyIn_ready (rs := [2]) (by kernel_rfl) (by simp) ?_
        refine AllReadyIn.cons rfl (fun K hK => ?_) ?_
        · go_simp
          refine ⟨trivial, ?_⟩
          refine (CallsIn.inRound l (wide_of _ (HC.out _))).mono ?_
          rintro e W3 ⟨rfl, b3⟩
          obtain ⟨hc3, hc4, w5, happ, hc5, hf5, hP⟩ := HN.out W3 ((Below.refl _ W).drew.trans b3)
          gi_wp2
          refine wpAnyIn_ready (rs := [3]) (by kernel_rfl) (by simp) ?_
          refine AllReadyIn.cons rfl (fun K hK => ?_) ?_
          · refine stepIn_build rfl _ _ rfl _ rfl (Hbd.out _) (hK _ _ ?_)
            clear hK K
            simp only [Act.put]
            refine wpAnyIn_ready (rs := [4]) (by kernel_rfl) (by simp) ?_
            refine AllReadyIn.cons rfl (fun K hK => ?_) ?_
            · refine stepIn_append_run rfl _ _ _ rfl _ _ rfl rfl happ (hK _ _ ?_)
              clear hK K
              simp only [Act.put]
              refine wpAnyIn_ready (rs := [5]) (by kernel_rfl) (by simp) ?_
              refine AllReadyIn.cons rfl (fun K hK => ?_) ?_
              · go_simp
                refine hK _ _ ?_
                clear hK K
                refine wpAnyIn_done (by kernel_rfl) ?_ _
                gi_wp2
                have h := hP.out
                rw [HL.out] at h ⊢
                rw [hsz]
                exact h
              · exact AllReadyIn.nil
            · exact AllReadyIn.nil
          exact AllReadyIn.nil
        exact AllReadyIn.nil
      exact AllReadyIn.nil
    refine AllReadyIn.cons rfl (fun K hK => ?_) ?_
    · refine stepIn_load_row rfl 40 _ rfl Bx rfl _ _ _ _ hFd Tryz.underlying40 rfl hsi (hK _ _ ?_)
      clear hK K
      simp only [Act.put]
      refine wpAnyIn_ready (rs := [0, 2]) (by kernel_rfl) (by simp) ?_
      refine AllReadyIn.cons rfl (fun K hK => ?_) ?_
      · go_simp
        refine hK _ _ ?_
        clear hK K
        refine wpAnyIn_ready (rs := [2]) (by kernel_rfl) (by simp) ?_
        refine AllReadyIn.cons rfl (fun K hK => ?_) ?_
        · go_simp
          refine ⟨trivial, ?_⟩
          refine (CallsIn.inRound l (wide_of _ (HC.out _))).mono ?_
          rintro e W3 ⟨rfl, b3⟩
          obtain ⟨hc3, hc4, w5, happ, hc5, hf5, hP⟩ := HN.out W3 ((Below.refl _ W).drew.trans b3)
          gi_wp2
          refine wpAnyIn_ready (rs := [3]) (by kernel_rfl) (by simp) ?_
          refine AllReadyIn.cons rfl (fun K hK => ?_) ?_
          · refine stepIn_build rfl _ _ rfl _ rfl (Hbd.out _) (hK _ _ ?_)
            clear hK K
            simp only [Act.put]
            refine wpAnyIn_ready (rs := [4]) (by kernel_rfl) (by simp) ?_
            refine AllReadyIn.cons rfl (fun K hK => ?_) ?_
            · refine stepIn_append_run rfl _ _ _ rfl _ _ rfl rfl happ (hK _ _ ?_)
              clear hK K
              simp only [Act.put]
              refine wpAnyIn_ready (rs := [5]) (by kernel_rfl) (by simp) ?_
              refine AllReadyIn.cons rfl (fun K hK => ?_) ?_
              · go_simp
                refine hK _ _ ?_
                clear hK K
                refine wpAnyIn_done (by kernel_rfl) ?_ _
                gi_wp2
                have h := hP.out
                rw [HL.out] at h ⊢
                rw [hsz]
                exact h
              · exact AllReadyIn.nil
            · exact AllReadyIn.nil
          exact AllReadyIn.nil
        exact AllReadyIn.nil
      refine AllReadyIn.cons rfl (fun K hK => ?_) ?_
      · go_simp
        refine ⟨trivial, ?_⟩
        refine (CallsIn.inRound l (wide_of _ (HC.out _))).mono ?_
        rintro e W3 ⟨rfl, b3⟩
        obtain ⟨hc3, hc4, w5, happ, hc5, hf5, hP⟩ := HN.out W3 ((Below.refl _ W).drew.trans b3)
        gi_wp2
        refine wpAnyIn_ready (rs := [0, 3]) (by kernel_rfl) (by simp) ?_
        refine AllReadyIn.cons rfl (fun K hK => ?_) ?_
        · go_simp
          refine hK _ _ ?_
          clear hK K
          refine wpAnyIn_ready (rs := [3]) (by kernel_rfl) (by simp) ?_
          refine AllReadyIn.cons rfl (fun K hK => ?_) ?_
          · refine stepIn_build rfl _ _ rfl _ rfl (Hbd.out _) (hK _ _ ?_)
            clear hK K
            simp only [Act.put]
            refine wpAnyIn_ready (rs := [4]) (by kernel_rfl) (by simp) ?_
            refine AllReadyIn.cons rfl (fun K hK => ?_) ?_
            · refine stepIn_append_run rfl _ _ _ rfl _ _ rfl rfl happ (hK _ _ ?_)
              clear hK K
              simp only [Act.put]
              refine wpAnyIn_ready (rs := [5]) (by kernel_rfl) (by simp) ?_
              refine AllReadyIn.cons rfl (fun K hK => ?_) ?_
              · go_simp
                refine hK _ _ ?_
                clear hK K
                refine wpAnyIn_done (by kernel_rfl) ?_ _
                gi_wp2
                have h := hP.out
                rw [HL.out] at h ⊢
                rw [hsz]
                exact h
              · exact AllReadyIn.nil
            · exact AllReadyIn.nil
          exact AllReadyIn.nil
        refine AllReadyIn.cons rfl (fun K hK => ?_) ?_
        · refine stepIn_build rfl _ _ rfl _ rfl (Hbd.out _) (hK _ _ ?_)
          clear hK K
          simp only [Act.put]
          refine wpAnyIn_ready (rs := [0]) (by kernel_rfl) (by simp) ?_
          refine AllReadyIn.cons rfl (fun K hK => ?_) ?_
          · go_simp
            refine hK _ _ ?_
            clear hK K
            refine wpAnyIn_ready (rs := [4]) (by kernel_rfl) (by simp) ?_
            refine AllReadyIn.cons rfl (fun K hK => ?_) ?_
            · refine stepIn_append_run rfl _ _ _ rfl _ _ rfl rfl happ (hK _ _ ?_)
              clear hK K
              simp only [Act.put]
              refine wpAnyIn_ready (rs := [5]) (by kernel_rfl) (by simp) ?_
              refine AllReadyIn.cons rfl (fun K hK => ?_) ?_
              · go_simp
                refine hK _ _ ?_
                clear hK K
                refine wpAnyIn_done (by kernel_rfl) ?_ _
                gi_wp2
                have h := hP.out
                rw [HL.out] at h ⊢
                rw [hsz]
                exact h
              · exact AllReadyIn.nil
            · exact AllReadyIn.nil
          exact AllReadyIn.nil
        exact AllReadyIn.nil
      exact AllReadyIn.nil
    exact AllReadyIn.nil
  case done =>
    rintro D ys W hD rfl ⟨⟨hr, hx⟩, hB⟩ hK
    have hc := hx.cell
    gi_wp2
    refine ⟨by simp, .inl ⟨_, _, rfl, run_takeDeferred hK, ?_⟩⟩
    have hDl := (Array.getElem?_eq_some_iff.1 hK).1
    refine ⟨_, results_tmp rfl _ _ _, _, rfl, ?_, hB.trans (belowK_b (w := w) (Nat.le_refl _) W D _ _ (by omega) hK rfl rfl)⟩
    exact ownsRow_putObj hr (.deferred none) hK rfl
  case stop =>
    rintro D c pre W _ _ h _
    exact h.elim
theorem Facts_calls (q : Option Addr) (fs : List OkF) (w : World) (hS : SetP w q (fs.map entF)) :
    Calls Tryz.prog 18 #[.pointer q] w fun e W' => ∃ v, e = .returned v ∧ RowF W' w.heap.size v fs ∧ Below w.heap.size w W' := by
  have hl : fs.length ≤ 4000 := by
    rcases hS with ⟨_, h⟩ | ⟨p, b, _, _, hG⟩
    · rw [List.map_eq_nil_iff.1 h]; simp
    · have := hG.2.2; rwa [List.length_map] at this
  exact callsIn_wide.1 (Facts_in q fs w hS hl)
end Go.Proofs.YtnndnjnpkjpkpaaGreatDoor
