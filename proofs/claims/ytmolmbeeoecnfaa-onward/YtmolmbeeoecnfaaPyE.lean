/- Own work: walks of the player: remember. -/
import Derived.Test.YtmolmbeeoecnfaaPyD
namespace Go.Proofs.Ytmolmbeeoecnfaa
open Go.RowKit Go.BigFrame
set_option linter.unusedVariables false
set_option linter.unusedSimpArgs false

/-- What is kept of state i. -/
def rmM (st : List StP) (wh : Bool) (act : List Bool) (i : Nat) : List Bool := if wh = true then actB st act i else noSet.set (inAm st i (actB st act i)) true
def rmS (st : List StP) (left : List Bool) (i : Nat) (p : Py) : Py := match st[i]? with
  | some x => if mem left i = true ∧ x.rem = true then { p with mm := p.mm.set i (rmM st x.wh p.act i) } else p
  | none => p
def rmF (st : List StP) (left : List Bool) : Nat → Py → Py
  | 0, p => p
  | k + 1, p => rmS st left k (rmF st left k p)
theorem rmM_len (st : List StP) (wh : Bool) (act : List Bool) (i : Nat) : (rmM st wh act i).length = 26 := by
  unfold rmM; split
  · exact belK_len _ _ _
  · simp [noSet]

theorem mmC_set : ∀ (mm : List (List Bool)) (i : Nat) (m : List Bool), (∀ m ∈ mm, m.length = 26) → m.length = 26 → i < mm.length → ∀ j, (mmC (mm.set i m))[j]? = if i * 26 ≤ j ∧ j < i * 26 + 26 then (bV m)[j - i * 26]? else (mmC mm)[j]?
  | [], i, m, _, _, h, j => by simp at h
  | a :: r, 0, m, hl, hm, h, j => by
    have ha : a.length = 26 := hl a (by simp)
    simp only [List.set_cons_zero, mmC, List.flatMap_cons, Nat.zero_mul, Nat.zero_le, true_and, Nat.zero_add, Nat.sub_zero]
    by_cases hj : j < 26
    · rw [if_pos hj, List.getElem?_append_left (by rw [bV_len]; omega)]
    · rw [if_neg hj, List.getElem?_append_right (by rw [bV_len]; omega), List.getElem?_append_right (by rw [bV_len]; omega), bV_len, bV_len, hm, ha]
  | a :: r, i + 1, m, hl, hm, h, j => by
    have ha : a.length = 26 := hl a (by simp)
    simp only [List.set_cons_succ, mmC, List.flatMap_cons]
    by_cases hj : j < 26
    · rw [if_neg (by omega), List.getElem?_append_left (by rw [bV_len]; omega), List.getElem?_append_left (by rw [bV_len]; omega)]
    · have ih := mmC_set r i m (fun m hm => hl m (by simp [hm])) hm (by simpa using h) (j - 26)
      rw [List.getElem?_append_right (by rw [bV_len]; omega), List.getElem?_append_right (by rw [bV_len]; omega), bV_len, ha]
      show (mmC (r.set i m))[j - 26]? = _
      rw [ih]
      by_cases hc : i * 26 ≤ j - 26 ∧ j - 26 < i * 26 + 26
      · rw [if_pos hc, if_pos (by omega), show j - 26 - i * 26 = j - (i + 1) * 26 by omega]
      · rw [if_neg hc, if_neg (by omega)]; rfl
theorem pyC_setMm (ws : Ws) (p : Py) (vo : Value) (i : Nat) (m : List Bool) (ho : PyOk p) (hi : i < 26) (hm : m.length = 26) : setsA (pyC ws p vo).toArray (28 + i * 26) (bV m) = (pyC ws { p with mm := p.mm.set i m } vo).toArray := by
  apply Array.ext_getElem?
  intro j
  have hl := pyC_len (ws := ws) (vo := vo) ho
  rw [setsA_get _ _ _ _ (by rw [List.size_toArray, hl, bV_len, hm]; omega)]
  have hM := mmC_len p.mm ho.le
  have hM2 : (mmC (p.mm.set i m)).length = p.mm.length * 26 := by
    rw [mmC_len, List.length_set]
    intro x hx
    rcases List.mem_or_eq_of_mem_set hx with h | h
    · exact ho.le x h
    · rw [h]; exact hm
  have hlm := ho.lm
  have key := mmC_set p.mm i m ho.le hm (by omega) (j - 28)
  simp only [List.getElem?_toArray, pyC]
  rw [bV_len, hm]
  by_cases h2 : j < 2
  · rw [if_neg (by omega), List.getElem?_append_left (by simpa using h2), List.getElem?_append_left (by simpa using h2)]
  · by_cases h28 : j < 28
    · rw [if_neg (by omega), List.getElem?_append_right (l₁ := [ws.v2, ws.v3]) (by simp; omega), List.getElem?_append_right (l₁ := [ws.v2, ws.v3]) (by simp; omega), List.getElem?_append_left (l₁ := bV p.act) (by simp [bV_len, ho.la]; omega), List.getElem?_append_left (l₁ := bV p.act) (by simp [bV_len, ho.la]; omega)]
    · rw [List.getElem?_append_right (l₁ := [ws.v2, ws.v3]) (by simp; omega), List.getElem?_append_right (l₁ := [ws.v2, ws.v3]) (by simp; omega), List.getElem?_append_right (l₁ := bV p.act) (by simp [bV_len, ho.la]; omega), List.getElem?_append_right (l₁ := bV p.act) (by simp [bV_len, ho.la]; omega)]
      simp only [List.length_cons, List.length_nil, bV_len, ho.la]
      rw [show j - (0 + 1 + 1) - 26 = j - 28 by omega]
      by_cases h704 : j - 28 < 676
      · rw [List.getElem?_append_left (l₁ := mmC p.mm) (by omega), List.getElem?_append_left (l₁ := mmC (p.mm.set i m)) (by omega), key]
        by_cases hc : 28 + i * 26 ≤ j ∧ j < 28 + i * 26 + 26
        · rw [if_pos hc, if_pos (by omega), show j - (28 + i * 26) = j - 28 - i * 26 by omega]
        · rw [if_neg hc, if_neg (by omega)]
      · rw [if_neg (by omega), List.getElem?_append_right (l₁ := mmC p.mm) (by omega), List.getElem?_append_right (l₁ := mmC (p.mm.set i m)) (by omega), hM, hM2]
theorem PyV.setMm {w : World} {b : Nat} {st : List StP} {ws : Ws} {p : Py} {vo : Value} (h : PyV w b st ws p vo) (i : Nat) (m : List Bool) (hi : i < 26) (hm : m.length = 26) :
    PyV (w.setCells b (28 + i * 26) (bV m)) b st ws { p with mm := p.mm.set i m } vo := by
  have f : Fr (· = b) w (w.setCells b (28 + i * 26) (bV m)) := Fr.setsr (S := (· = b)) (Or.inl rfl) _ _ (Fr.refl _ _)
  exact { blk := by rw [← pyC_setMm ws p vo i m h.ok hi hm]; exact Blk.sets _ _ h.blk
          pl := h.pl.fr f (fun k hk e => by have := h.np k hk; omega)
          ro := row_frB h.ro f (fun k hk e => by have := (h.roB k hk).1; omega)
          np := h.np
          ok := ⟨h.ok.la, by simp [h.ok.lm], fun x hx => by
            rcases List.mem_or_eq_of_mem_set hx with h' | h'
            · exact h.ok.le x h'
            · rw [h']; exact hm⟩ }

end Go.Proofs.Ytmolmbeeoecnfaa
