/- The sorted remainders as a list of places; what the loops of Apportion hold. -/
import Derived.Test.YtediphiebamffaaCmp
namespace Go.Proofs.Ytediphiebamffaa
open Go.RowKit Go.Sort

theorem bang_get (d : Array (Nat × Nat)) (i : Nat) (h : i < d.size) : d[i]! = d.toList[i]'(by simpa using h) := by
  rw [getElem!_pos d i h]; simp
theorem deal_sorted (n : Nat) (r : Nat → Nat) (d d' : Array (Nat × Nat)) (hd : d.toList = (List.range n).map fun i => (i, r i)) (hp : PermIn 0 d.size d d') (hs : SortedIn (ltOf cmpR) 0 d.size d') :
    ∃ E : List Nat, E.Perm (List.range n) ∧ d'.size = n ∧ (∀ k (h : k < E.length), d'[k]! = (E[k], r E[k])) ∧ ∀ p q (hq : q < E.length) (hpq : p < q), bef r (E[p]'(Nat.lt_trans hpq hq)) E[q] = true := by
  have hsz : d.size = n := by
    have := congrArg List.length hd
    simpa using this
  have hsz' : d'.size = n := hp.1.trans hsz
  have hperm : d'.toList.Perm ((List.range n).map fun i => (i, r i)) := by
    have h := hp.2.2
    rw [show d'.extract 0 d.size = d' from by rw [← hp.1]; simp, show d.extract 0 d.size = d from by simp, hd] at h
    exact h
  have hE : (d'.toList.map Prod.fst).Perm (List.range n) := by
    have := hperm.map Prod.fst
    rw [List.map_map, show (Prod.fst ∘ fun i => (i, r i)) = (id : Nat → Nat) from rfl, List.map_id] at this
    exact this
  have hmem : ∀ x ∈ d'.toList, x = (x.1, r x.1) := by
    intro x hx
    have := hperm.mem_iff.1 hx
    obtain ⟨i, _, rfl⟩ := List.mem_map.1 this
    rfl
  have hlen : (d'.toList.map Prod.fst).length = n := by rw [List.length_map]; simpa using hsz'
  refine ⟨d'.toList.map Prod.fst, hE, hsz', ?_, ?_⟩
  · intro k h
    rw [hlen] at h
    have hk : k < d'.size := by omega
    rw [bang_get d' k hk]
    have := hmem (d'.toList[k]'(by simpa using hk)) (List.getElem_mem _)
    rw [List.getElem_map]
    exact this
  · intro p q hq hpq
    have hq2 : q < n := by omega
    have hpn : p < d'.size := by omega
    have hqn : q < d'.size := by omega
    have h1 := hs p q (Nat.zero_le _) hpq (by omega)
    rw [bang_get d' p hpn, bang_get d' q hqn, ltR] at h1
    have hnd : (d'.toList.map Prod.fst).Nodup := hE.nodup_iff.2 List.nodup_range
    have hne : (d'.toList.map Prod.fst)[p]'(by omega) ≠ (d'.toList.map Prod.fst)[q] := by
      intro h
      have := (List.getElem_inj hnd).1 h
      omega
    rw [List.getElem_map, List.getElem_map] at hne ⊢
    have ep := hmem (d'.toList[p]'(by simpa using hpn)) (List.getElem_mem _)
    have eq := hmem (d'.toList[q]'(by simpa using hqn)) (List.getElem_mem _)
    have ep2 : (d'.toList[p]'(by simpa using hpn)).2 = r (d'.toList[p]'(by simpa using hpn)).1 := congrArg Prod.snd ep
    have eq2 : (d'.toList[q]'(by simpa using hqn)).2 = r (d'.toList[q]'(by simpa using hqn)).1 := congrArg Prod.snd eq
    rw [ep2, eq2] at h1
    rw [bef_iff]
    simp only [decide_eq_false_iff_not] at h1
    omega

/-! ### What the loops hold -/
/-- Block g holds these remainders, two cells each. -/
def RemAt (w : World) (g n : Nat) (f : Nat → Nat × Nat) : Prop := ∀ i, i < n → (w.cell? ⟨g, i * 2, none⟩ = some (.int .i64 ((f i).1 : Int)) ∧ w.cell? ⟨g, i * 2 + 1, none⟩ = some (.int .u64 ((f i).2 : Int))) ∧ ∀ j, w.frozen? ⟨g, j, none⟩ = false
theorem RemAt.below {w w' : World} {g n : Nat} {f : Nat → Nat × Nat} (h : RemAt w g n f) (hb : Below w.heap.size w w') : RemAt w' g n f := fun i hi => by
  have hlt := lt_of_cell (h i hi).1.1
  exact ⟨⟨(hb.cell (p := ⟨g, i * 2, none⟩) hlt).trans (h i hi).1.1, (hb.cell (p := ⟨g, i * 2 + 1, none⟩) hlt).trans (h i hi).1.2⟩, fun j => (hb.frozen (p := ⟨g, j, none⟩) hlt).trans ((h i hi).2 j)⟩
theorem RemAt.other {w : World} {g g2 n : Nat} {f : Nat → Nat × Nat} (h : RemAt w g n f) (hne : g2 ≠ g) (b : Nat) (x : Value) : RemAt (w.setCell ⟨g2, b, none⟩ x) g n f := fun i hi => by
  rw [World.cell?_setCell_other _ _ _ _ (by intro h2; exact hne (by injection h2)), World.cell?_setCell_other _ _ _ _ (by intro h2; exact hne (by injection h2))]
  exact ⟨(h i hi).1, fun j => by rw [World.frozen?_setCell]; exact (h i hi).2 j⟩
theorem RemAt.set {w : World} {g n : Nat} {f : Nat → Nat × Nat} (h : RemAt w g n f) (b : Nat) (x : Nat × Nat) :
    RemAt ((w.setCell ⟨g, b * 2, none⟩ (.int .i64 (x.1 : Int))).setCell ⟨g, b * 2 + 1, none⟩ (.int .u64 (x.2 : Int))) g n (fun i => if i = b then x else f i) := fun i hi => by
  refine ⟨?_, fun j => by rw [World.frozen?_setCell, World.frozen?_setCell]; exact (h i hi).2 j⟩
  dsimp only
  by_cases e : i = b
  · subst e
    rw [if_pos rfl]
    have h0 : (w.setCell ⟨g, i * 2, none⟩ (.int .i64 (x.1 : Int))).cell? ⟨g, i * 2 + 1, none⟩ = some (.int .u64 ((f i).2 : Int)) := by
      rw [World.cell?_setCell_other _ _ _ _ (by intro h2; injection h2 with h3 h4; omega)]; exact (h i hi).1.2
    refine ⟨?_, World.cell?_setCell_same _ _ _ h0⟩
    rw [World.cell?_setCell_other _ _ _ _ (by intro h2; injection h2 with h3 h4; omega)]
    exact World.cell?_setCell_same _ _ _ (h i hi).1.1
  · rw [if_neg e]
    rw [World.cell?_setCell_other _ _ _ _ (by intro h2; injection h2 with h3 h4; omega), World.cell?_setCell_other _ _ _ _ (by intro h2; injection h2 with h3 h4; omega), World.cell?_setCell_other _ _ _ _ (by intro h2; injection h2 with h3 h4; omega), World.cell?_setCell_other _ _ _ _ (by intro h2; injection h2 with h3 h4; omega)]
    exact (h i hi).1
theorem RemAt.holds {w : World} {g n : Nat} {f : Nat → Nat × Nat} (h : RemAt w g n f) (d : Array (Nat × Nat)) (hd : d.toList = (List.range n).map f) : HoldsK encR 2 w g 0 d := by
  have hsz : d.size = n := by
    have := congrArg List.length hd
    simpa using this
  intro j hj
  rw [size_flatK] at hj
  have hi : j / 2 < n := by omega
  have hg := get_flatK encR 2 d j (by omega)
  rw [Nat.zero_add, hg]
  have hdj : d[j / 2]! = f (j / 2) := by
    rw [bang_get d (j / 2) (by omega)]
    simp only [hd]
    simp
  rw [hdj]
  refine ⟨?_, (h _ hi).2 j⟩
  have hc := (h _ hi).1
  have h2 : j % 2 = 0 ∨ j % 2 = 1 := by omega
  rcases h2 with h2 | h2
  · rw [h2, show j = j / 2 * 2 by omega, show j / 2 * 2 / 2 = j / 2 by omega]; exact hc.1
  · rw [h2]
    have e : j = j / 2 * 2 + 1 := by omega
    conv => lhs; rw [e]
    exact hc.2
theorem rem_of_holds {w : World} {g : Nat} {d : Array (Nat × Nat)} (h : HoldsK encR 2 w g 0 d) (k : Nat) (hk : k < d.size) : w.cell? ⟨g, k * 2, none⟩ = some (.int .i64 ((d[k]!).1 : Int)) ∧ w.cell? ⟨g, k * 2 + 1, none⟩ = some (.int .u64 ((d[k]!).2 : Int)) := by
  have h1 := (h.cell hk (show 0 < 2 by omega)).1
  have h2 := (h.cell hk (show 1 < 2 by omega)).1
  rw [Nat.zero_add] at h1 h2
  exact ⟨h1, h2⟩
theorem OwnAt.kept {w w' : World} {g : Nat} {l : List Int} {row : Option Nat} (h : OwnAt w g l) (hg : w.grownBy w' row) (hne : some g ≠ row) : OwnAt w' g l := fun i hi => by
  have hlt := lt_of_cell (h i hi).1
  exact ⟨hg.cell (h i hi).1 hne, (World.frozen?_of_block (a := ⟨g, i, none⟩) (hg.block g hlt hne)).trans (h i hi).2⟩
end Go.Proofs.Ytediphiebamffaa
