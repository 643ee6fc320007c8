/- Own work: the two answers of Check are one. -/
import Derived.Test.YtmolmbeeoecnfaaEqB
namespace Go.Proofs.Ytmolmbeeoecnfaa
open Go.RowKit
set_option linter.unusedVariables false
set_option linter.unusedSimpArgs false

theorem rd_eq (s : ByteArray) : Ag (rd s) (rcR s) :=
  st_eq s (s.size + 1) P0 R0 (-1) 1 ⟨rfl, by decide, rfl, rfl, rfl, rfl⟩ (P0_inv s) ⟨Nat.zero_le _, Nat.le_refl _, Nat.le_refl _⟩ (by show s.size - 0 < _; omega)

theorem isNm_map (st : List StP) (c : UInt8) (k : Nat) : isNm (st.map toR) c k = isNmP st c k := by
  simp only [isNm, isNmP, List.getElem?_map]
  cases st[k]? <;> rfl
theorem idx_map (st : List StP) (c : UInt8) : idx (st.map toR) c = idxP st c := by
  unfold idx idxP
  rw [List.length_map, firstB_congr _ _ _ (fun j _ => isNm_map st c j)]
  cases firstB (isNmP st c) st.length <;> rfl
theorem stAt_map (st : List StP) (k : Nat) : stAt (st.map toR) k = plAt st k := by
  simp only [stAt, plAt, List.getElem?_map]
  cases st[k]? <;> rfl
theorem dp_map (st : List StP) : firstB (dpB (st.map toR)) (st.map toR).length = firstB (dpP st) st.length := by
  rw [List.length_map]
  refine firstB_congr _ _ _ (fun j _ => ?_)
  simp only [dpB, dpP, List.getElem?_map]
  cases st[j]? <;> rfl
theorem tw_map (st : List StP) : firstB (twB (st.map toR)) (st.map toR).length = firstB (twP st) st.length := by
  rw [List.length_map]
  refine firstB_congr _ _ _ (fun j _ => ?_)
  simp only [twB, twP, List.getElem?_map]
  cases st[j]? with
  | none => rfl
  | some x => simp only [Option.map_some]; rw [show (toR x).name = x.name from rfl, idx_map]

theorem firstB_find {α : Type} (l : List α) (P : α → Bool) (Q : Nat → Bool) (hQ : ∀ k x, l[k]? = some x → Q k = P x) :
    (firstB Q l.length = none ∧ l.find? P = none) ∨ ∃ k x, firstB Q l.length = some k ∧ l[k]? = some x ∧ l.find? P = some x := by
  rcases firstB_spec Q l.length with ⟨h1, h2⟩ | ⟨k, h1, h2, h3, h4⟩
  · refine Or.inl ⟨h1, List.find?_eq_none.2 ?_⟩
    intro x hx
    obtain ⟨i, hi⟩ := List.mem_iff_getElem?.1 hx
    have := h2 i (List.getElem?_eq_some_iff.1 hi).1
    rw [hQ i x hi] at this
    simp [this]
  · have hx : l[k]? = some l[k] := List.getElem?_eq_getElem h2
    refine Or.inr ⟨k, l[k], h1, hx, ?_⟩
    conv => lhs; rw [split_at hx]
    refine find_at P _ _ _ ?_ (by rw [← hQ k _ hx]; exact h3)
    intro y hy
    obtain ⟨i, hi⟩ := List.mem_iff_getElem?.1 hy
    rw [List.getElem?_take] at hi
    split at hi
    · rw [← hQ i y hi]; exact h4 i ‹_›
    · cases hi

theorem kd_map (st : List StP) (c : UInt8) (h : ¬ idxP st c < 0) : kd (st.map toR) c = kdP st (idxP st c) := by
  have h' : ¬ idx (st.map toR) c < 0 := by rw [idx_map]; exact h
  obtain ⟨k, x, e1, e2, e3, -⟩ := idx_some (st.map toR) c h'
  rw [idx_map] at e1
  rw [e3, e1, kdP, Int.toNat_natCast]
  rw [List.getElem?_map] at e2
  cases hs : st[k]? with
  | none => rw [hs] at e2; cases e2
  | some y => rw [hs] at e2; simp at e2; rw [← e2]; rfl

theorem marks_find (st : List StP) : ∀ (tr : List TrQ), (∀ t ∈ tr, ¬ idxP st t.tn < 0) →
    (tr.flatMap marksQ).find? (fun m => !(kd (st.map toR) m.name == 1)) = ((tr.map (resQ st)).find? (badM st)).map fun t => ⟨t.tn, t.mp⟩
  | [], _ => rfl
  | t :: tr, h => by
    have ih := marks_find st tr (fun u hu => h u (List.mem_cons_of_mem _ hu))
    have hk := kd_map st t.tn (h t (List.mem_cons_self ..))
    simp only [List.flatMap_cons, List.map_cons]
    rw [List.find?_append, ih]
    by_cases hm : t.mark = 0
    · have hb : badM st (resQ st t) = false := by simp [badM, resQ, hm]
      rw [marksQ, if_pos hm, List.find?_cons, hb]
      rfl
    · rw [marksQ, if_neg hm]
      by_cases hk1 : kdP st (idxP st t.tn) = 1
      · have hb : badM st (resQ st t) = false := by simp [badM, resQ, hk1]
        rw [List.find?_cons, List.find?_cons, hb]
        simp [hk, hk1]
      · have hb : badM st (resQ st t) = true := by simp [badM, resQ, hk1, hm]
        have hP : (fun m : RfR => !(kd (st.map toR) m.name == 1)) ⟨t.tn, t.mp⟩ = true := by simp [hk, hk1]
        rw [List.find?_cons_of_pos (p := fun m : RfR => !(kd (st.map toR) m.name == 1)) hP, List.find?_cons_of_pos hb]
        rfl

theorem ftd_none {st : List StP} : firstB (dpP st) st.length = none ↔ ¬ ftd st ≠ -1 := by
  unfold ftd
  cases h : firstB (dpP st) st.length with
  | none => simp
  | some k => simp only; constructor; intro e; cases e; intro e; exact absurd (by omega) e
theorem ftw_none {st : List StP} : firstB (twP st) st.length = none ↔ ¬ ftw st ≠ -1 := by
  unfold ftw
  cases h : firstB (twP st) st.length with
  | none => simp
  | some k => simp only; constructor; intro e; cases e; intro e; exact absurd (by omega) e

theorem flt_eq (st : List StP) (tr : List TrQ) :
    (if ftd st ≠ -1 then ((3 : Nat), ftd st) else if ftw st ≠ -1 then (4, ftw st) else if rsv st tr ≠ -1 then (5, rsv st tr) else if mrk st (tr.map (resQ st)) ≠ -1 then (6, mrk st (tr.map (resQ st))) else (0, 0)) =
    ((flt (st.map toR) ((tr.flatMap refsQ).map toRf) (tr.flatMap marksQ)).1, ((flt (st.map toR) ((tr.flatMap refsQ).map toRf) (tr.flatMap marksQ)).2 : Int)) := by
  rcases h1 : firstB (dpP st) st.length with _ | k
  · rw [if_neg (ftd_none.1 h1)]
    have g1 : firstB (dpB (st.map toR)) (st.map toR).length = none := (dp_map st).trans h1
    rcases h2 : firstB (twP st) st.length with _ | k
    · rw [if_neg (ftw_none.1 h2)]
      have g2 : firstB (twB (st.map toR)) (st.map toR).length = none := (tw_map st).trans h2
      have hq : ∀ k x, (tr.flatMap refsQ)[k]? = some x → rfB (st.map toR) ((tr.flatMap refsQ).map toRf) k = badR st x := by
        intro k x hx
        have e : ((tr.flatMap refsQ).map toRf)[k]? = some (toRf x) := by rw [List.getElem?_map, hx]; rfl
        rw [rfB_at e, idx_map]
        rfl
      rcases firstB_find (tr.flatMap refsQ) (badR st) _ hq with ⟨a1, a2⟩ | ⟨k, x, a1, a2, a3⟩
      · have hr : rsv st tr = -1 := by rw [rsv, a2]
        rw [if_neg (fun h => h hr)]
        have g3 : firstB (rfB (st.map toR) ((tr.flatMap refsQ).map toRf)) ((tr.flatMap refsQ).map toRf).length = none := by rw [List.length_map]; exact a1
        have hm := marks_find st tr (rsv_good hr)
        have hq2 : ∀ k x, (tr.flatMap marksQ)[k]? = some x → mkB (st.map toR) (tr.flatMap marksQ) k = (fun m : RfR => !(kd (st.map toR) m.name == 1)) x := fun k x hx => mkB_at hx
        rcases firstB_find (tr.flatMap marksQ) (fun m : RfR => !(kd (st.map toR) m.name == 1)) _ hq2 with ⟨b1, b2⟩ | ⟨k, x, b1, b2, b3⟩
        · rw [b2] at hm
          have hmr : mrk st (tr.map (resQ st)) = -1 := by
            rw [mrk]
            cases hf : (tr.map (resQ st)).find? (badM st) with
            | none => rfl
            | some t => rw [hf] at hm; cases hm
          rw [if_neg (fun h => h hmr), flt0 g1 g2 g3 b1]
          rfl
        · rw [b3] at hm
          cases hf : (tr.map (resQ st)).find? (badM st) with
          | none => rw [hf] at hm; cases hm
          | some t =>
            rw [hf] at hm
            simp at hm
            have hmr : mrk st (tr.map (resQ st)) = (x.at_ : Int) := by rw [mrk, hf, hm]
            rw [if_pos (by rw [hmr]; omega), flt6 g1 g2 g3 b1, rfAt_at b2, hmr]
      · have hr : rsv st tr = (x.2 : Int) := by rw [rsv, a3]
        have g3 : firstB (rfB (st.map toR) ((tr.flatMap refsQ).map toRf)) ((tr.flatMap refsQ).map toRf).length = some k := by rw [List.length_map]; exact a1
        have e : ((tr.flatMap refsQ).map toRf)[k]? = some (toRf x) := by rw [List.getElem?_map, a2]; rfl
        rw [if_pos (by rw [hr]; omega), flt5 g1 g2 g3, rfAt_at e, hr]
        rfl
    · have hw : ftw st = (plAt st k : Int) := by rw [ftw, h2]
      have g2 : firstB (twB (st.map toR)) (st.map toR).length = some k := (tw_map st).trans h2
      rw [if_pos (by rw [hw]; omega), flt4 g1 g2, stAt_map, hw]
  · have hw : ftd st = (plAt st k : Int) := by rw [ftd, h1]
    have g1 : firstB (dpB (st.map toR)) (st.map toR).length = some k := (dp_map st).trans h1
    rw [if_pos (by rw [hw]; omega), flt3 g1, stAt_map, hw]

theorem check_eq (s : ByteArray) : unE s = ((rdE s).1, ((rdE s).2 : Int)) := by
  unfold unE rdE
  by_cases h160 : 160 < s.size
  · rw [if_pos h160, if_pos h160]; rfl
  · rw [if_neg h160, if_neg h160]
    have hag := rd_eq s
    by_cases hok : (rcR s).1 = true
    · have hM := hag.1 hok
      have hgo := rsF_goes s (s.size + 1) R0 (-1) 1 ⟨Nat.zero_le _, Nat.le_refl _, Nat.le_refl _⟩ (by show s.size - 0 < _; omega) hok
      have hi : (rcR s).2.i ≤ s.size := hgo.inv.1
      by_cases hlt : (rcR s).2.i < s.size
      · have hK : rcK s = false := by rw [rcK, hok]; simp; omega
        have hB : rdB s = ((rcR s).2.i : Int) := by rw [rdB, if_pos ⟨hM.bad, by rw [hM.i]; exact hlt⟩, hM.i]
        rw [if_pos hK, hB, if_pos (by omega)]
        simp
      · have hK : rcK s = true := by rw [rcK, hok]; simp; omega
        have hB : rdB s = (rd s).bad := by rw [rdB, if_neg (fun h => hlt (by have := h.2; rw [hM.i] at this; exact this))]
        rw [if_neg (by simp [hK]), hB, if_neg (show ¬ 0 ≤ (rd s).bad by have := hM.bad; omega), hM.st, hM.re, hM.ma]
        exact flt_eq _ _
    · have hok' : (rcR s).1 = false := by simpa using hok
      have hb := hag.2 hok'
      have hK : rcK s = false := by rw [rcK, hok']; rfl
      have hB : rdB s = ((rcR s).2.i : Int) := by rw [rdB, if_neg (fun h => by have := h.1; omega), hb]
      rw [if_pos hK, hB, if_pos (by omega)]
      simp
end Go.Proofs.Ytmolmbeeoecnfaa
