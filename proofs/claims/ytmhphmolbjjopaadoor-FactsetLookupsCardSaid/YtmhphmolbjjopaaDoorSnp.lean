/- What the laws' fixed examples come to: the sets of two plays. -/
import Derived.Test.YtmhphmolbjjopaaDoorSme
namespace Go.Proofs.YtmhphmolbjjopaaDoor
open Go.RowKit Go.Maps

def pA : Fa := playA 1
def pB : Fa := playA 2
theorem okA1 : okA pA = true := by decide +kernel
theorem okB1 : okA pB = true := by decide +kernel
theorem okZ : okA zeroA = false := by decide +kernel
theorem key_ne : keyF pA ≠ keyF pB := fun h => by
  have := play_inj 1 2 (by omega) (by omega) h
  omega
def eA : List Ent := [(keyF pA, valF pA)]
def eB : List Ent := [(keyF pB, valF pB)]
theorem one_has (f g : Fa) : hasE [(keyF f, valF f)] (keyF g) = decide (keyF f = keyF g) := by
  unfold hasE getE getE
  by_cases h : keyF f = keyF g
  · rw [if_pos h, decide_eq_true h]; rfl
  · rw [if_neg h, decide_eq_false h]; rfl
theorem plus_one (f : Fa) (h : okA f = true) : plusB [] f = true ∧ plusN [] f = 0 ∧ plusE [] f = [(keyF f, valF f)] := by
  unfold plusB plusN plusE
  rw [h]
  refine ⟨rfl, rfl, rfl⟩
theorem plus_again : plusB eA pA = false ∧ plusN eA pA = 0 ∧ plusE eA pA = eA := by
  have h1 : hasE eA (keyF pA) = true := by
    have := one_has pA pA
    rw [decide_eq_true rfl] at this
    exact this
  unfold plusB plusN plusE
  rw [okA1, h1]
  refine ⟨rfl, rfl, rfl⟩
theorem plus_bad (es : List Ent) : plusB es zeroA = false ∧ plusN es zeroA = 60 ∧ plusE es zeroA = es := by
  unfold plusB plusN plusE
  rw [okZ]
  refine ⟨rfl, rfl, rfl⟩
theorem good_one (f : Fa) (h : okA f = true) : Good [(keyF f, valF f)] := ⟨List.pairwise_singleton _ _, fun p hp => ⟨f, h, List.mem_singleton.1 hp⟩, by simp⟩
def eU : List Ent := uniE eA eB
set_option maxRecDepth 100000 in
theorem miss_one : missK eA (idsE eB) = [keyF pB] := by
  have h1 : hasE eA (keyF pB) = false := by
    have := one_has pA pB
    rw [decide_eq_false key_ne] at this
    exact this
  unfold missK missE
  show ((if hasE eA (keyF pB) = true then [] else putE (keyF pB) (.bool true) []) : List Ent).map (·.1) = [keyF pB]
  rw [h1]
  generalize keyF pB = k
  rfl
set_option maxRecDepth 100000 in
theorem uni_err : uniErr eA eB = 0 := by unfold uniErr; rw [miss_one]; rfl
set_option maxRecDepth 100000 in
theorem uni_set : uniS eA eB = eU := by unfold uniS; rw [miss_one]; rfl
theorem good_U : Good eU := by
  have := good_uni (good_one pA okA1) (good_one pB okB1)
  rw [show uniS [(keyF pA, valF pA)] [(keyF pB, valF pB)] = eU from uni_set] at this
  exact this
theorem U_length : eU.length = 2 := by
  have := uniE_length (s := eA) (t := eB) (good_one pA okA1).1
  unfold eU
  rw [this]
  have h := miss_one
  unfold idsE at h
  rw [h]
  rfl
theorem U_mem {p : Ent} (h : p ∈ eU) : p = (keyF pA, valF pA) ∨ p = (keyF pB, valF pB) := by
  have h1 := mem_getE good_U.1 (k := p.1) (x := p.2) h
  unfold eU at h1
  have gA : Asc eA := (good_one pA okA1).1
  have gB : Asc eB := (good_one pB okB1).1
  rw [uniE_get gA gB] at h1
  cases hg : getE eA p.1 with
  | some v =>
    rw [hg] at h1
    have := getE_mem hg
    have e1 : v = p.2 := by simpa using h1
    rw [e1] at this
    exact .inl (List.mem_singleton.1 this)
  | none =>
    rw [hg] at h1
    have := getE_mem (es := eB) (k := p.1) (x := p.2) (by simpa using h1)
    exact .inr (List.mem_singleton.1 this)
/-- The two elements, with the first one's fact. -/
theorem U_two : ∃ (x y : Ent) (v : Nat → Int) (t : ByteArray), eU = [x, y] ∧ x.2 = .agg (factC v t) ∧ v 0 = 1 ∧ t.size ≤ 65536 := by
  match h : eU, U_length with
  | [x, y], _ =>
    have hx : x ∈ eU := by rw [h]; exact List.mem_cons_self ..
    rcases U_mem hx with e | e
    · exact ⟨x, y, pA.1, pA.2, rfl, by rw [e], rfl, by decide⟩
    · exact ⟨x, y, pB.1, pB.2, rfl, by rw [e], rfl, by decide⟩
theorem short_not {es : List Ent} (hG : Good es) {k : List UInt8} (h : k.length ≠ 32) : hasE es k = false := by
  cases hh : hasE es k with
  | false => rfl
  | true =>
    obtain ⟨p, hp, e⟩ := List.mem_map.1 ((mem_keys hG.1 k).2 hh)
    exact absurd (by rw [← e]; exact good_key hG hp) h
theorem miss_x {es : List Ent} (hG : Good es) : missK es [[120]] ≠ [] := by
  intro h
  have := miss_nil h [120] (List.mem_singleton.2 rfl)
  rw [short_not hG (by decide)] at this
  cases this
set_option maxRecDepth 100000 in
theorem miss_y {x y : Ent} (h : eU = [x, y]) : missK eU [y.1] = [] := by
  have hh : hasE eU y.1 = true := (mem_keys good_U.1 y.1).1 (by rw [h]; simp)
  unfold missK missE
  show ((if hasE eU y.1 = true then [] else putE y.1 (.bool true) []) : List Ent).map (·.1) = []
  rw [hh]
  generalize y.1 = k
  rfl
theorem part_y (es : List Ent) (k : List UInt8) : (partE es [k]).length = 1 := rfl
set_option maxRecDepth 100000 in
theorem miss_four {x y : Ent} (h : eU = [x, y]) : missK eU [[98], x.1, [97], [98]] = [[97], [98]] := by
  have hx : hasE eU x.1 = true := (mem_keys good_U.1 x.1).1 (by rw [h]; simp)
  have hb : hasE eU [98] = false := short_not good_U (by decide)
  have ha : hasE eU [97] = false := short_not good_U (by decide)
  unfold missK missE
  simp only [List.foldl_cons, List.foldl_nil, hx, hb, ha, if_true, Bool.false_eq_true, if_false]
  decide
end Go.Proofs.YtmhphmolbjjopaaDoor
