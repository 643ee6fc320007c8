/- Own work: a plan without actions and places goes through the same statuses. -/
import Derived.Test.YtmolmbeeoecnfaaSiB
namespace Go.Proofs.Ytmolmbeeoecnfaa
open Go.RowKit Go.BigFrame
set_option linter.unusedVariables false
set_option linter.unusedSimpArgs false

theorem eS_get (st : List StP) (k : Nat) : (st.map eS)[k]? = (st[k]?).map eS := List.getElem?_map
section
variable (st : List StP)
theorem endAt_e (k : Nat) : endAt (st.map eS) k = endAt st k := by unfold endAt; rw [eS_get]; cases st[k]? <;> rfl
theorem outAt_e (k : Nat) : outAt (st.map eS) k = outAt st k := by unfold outAt; rw [eS_get]; cases st[k]? <;> rfl
theorem kindAt_e (k : Nat) : kindAt (st.map eS) k = kindAt st k := by unfold kindAt; rw [eS_get]; cases st[k]? <;> rfl
theorem nameAt_e (k : Nat) : nameAt (st.map eS) k = nameAt st k := by unfold nameAt; rw [eS_get]; cases st[k]? <;> rfl
theorem isB_e : isB (st.map eS) = isB st := by funext a b; unfold isB; rw [endAt_e]
theorem inA_e : inA (st.map eS) = inA st := by funext a b c; unfold inA; rw [outAt_e]
theorem inAm_e : inAm (st.map eS) = inAm st := by funext a b; unfold inAm; rw [inA_e, endAt_e]
theorem inT_e : inT (st.map eS) = inT st := by funext a b c; unfold inT; rw [outAt_e, isB_e]
theorem inTo_e : inTo (st.map eS) = inTo st := by funext a b; unfold inTo; rw [inT_e, endAt_e]
theorem scF_e (ts : Nat) : ∀ (f : Nat) (s : Int), scF (st.map eS) ts f s = scF st ts f s
  | 0, s => rfl
  | f + 1, s => by unfold scF; rw [kindAt_e, isB_e, outAt_e, scF_e ts f]
theorem scOf_e (t : TrQ) : scOf (st.map eS) (eT t) = scOf st t := by
  unfold scOf; rw [scF_e, List.length_map, outAt_e]; rfl
theorem actB_e : actB (st.map eS) = actB st := by funext a b; unfold actB; rw [endAt_e]
theorem lefB_e (act : List Bool) (t : TrQ) : lefB (st.map eS) act (eT t) = lefB st act t := by unfold lefB; rw [scOf_e, actB_e]
theorem fiOf_e (t : TrQ) : fiOf (st.map eS) (eT t) = fiOf st t := by unfold fiOf; rw [scOf_e, inTo_e]; rfl
theorem chP_e : chP (st.map eS) = chP st := by funext a b c; unfold chP; rw [isB_e, inTo_e, inAm_e]
theorem rmM_e : rmM (st.map eS) = rmM st := by funext a b c; unfold rmM; rw [actB_e, inAm_e]
theorem rmS_e : rmS (st.map eS) = rmS st := by
  funext a b c; unfold rmS; rw [eS_get, rmM_e]; cases st[b]? <;> rfl
theorem rmF_e (left : List Bool) : ∀ (k : Nat) (p : Py), rmF (st.map eS) left k p = rmF st left k p
  | 0, p => rfl
  | k + 1, p => by unfold rmF; rw [rmS_e, rmF_e left k]
theorem nmK_e (l : List Bool) : ∀ k, nmK (st.map eS) l k = nmK st l k
  | 0 => rfl
  | k + 1 => by unfold nmK; rw [nmK_e l k, nameAt_e]
theorem stT_e (act : List Bool) (mm : List (List Bool)) : ∀ k, stT (st.map eS) act mm k = stT st act mm k
  | 0 => by unfold stT; rw [nmK_e, List.length_map]
  | k + 1 => by unfold stT; rw [stT_e act mm k, nameAt_e, nmK_e, List.length_map]
theorem lvF_e (left : List Bool) : ∀ (k : Nat) (p q : Py), Eqv p q → Eqv (lvF (st.map eS) left k p) (lvF st left k q)
  | 0, p, q, h => h
  | k + 1, p, q, h => by
    rw [lvF, lvF]
    split
    · exact lvF_e left k _ _ ⟨by show p.act.set k false = q.act.set k false; rw [h.1], h.2⟩
    · exact lvF_e left k p q h
theorem itF_e (g g' : Nat → Py → Py) (hg : ∀ i p q, Eqv p q → Eqv (g i p) (g' i q)) : ∀ (n i : Nat) (p q : Py), Eqv p q → Eqv (itF g n i p) (itF g' n i q)
  | 0, i, p, q, h => h
  | n + 1, i, p, q, h => itF_e g g' hg n (i + 1) _ _ (hg i p q h)
theorem enF_e : ∀ (f s : Nat) (a : Am) (p q : Py), Eqv p q → Eqv (enF (st.map eS) f s a p) (enF st f s a q)
  | 0, s, a, p, q, h => h
  | f + 1, s, a, p, q, h => by
    cases hx : st[s]? with
    | none =>
      have hx' : (st.map eS)[s]? = none := by rw [eS_get, hx]; rfl
      simp only [enF, hx, hx']; exact h
    | some x =>
      have hx' : (st.map eS)[s]? = some (eS x) := by rw [eS_get, hx]; rfl
      have h1 : Eqv { p with act := p.act.set s true, out := p.out ++ bls (eS x).enter } { q with act := q.act.set s true, out := q.out ++ bls x.enter } := ⟨by show p.act.set s true = q.act.set s true; rw [h.1], h.2⟩
      by_cases h2 : x.kind = 2
      · rw [enF_and hx h2, enF_and hx' h2]
        refine itF_e _ _ ?_ _ _ _ _ h1
        intro i p' q' hpq
        rw [outAt_e]
        split
        · exact enF_e f i a p' q' hpq
        · exact hpq
      · by_cases h3 : x.kind = 1
        · rw [enF_or hx h3, enF_or hx' h3, h.2, chP_e]
          exact enF_e f _ _ _ _ ⟨h1.1, rfl⟩
        · rw [enF_leaf hx h2 h3, enF_leaf hx' h2 h3]
          exact h1
theorem tkF_e (t : TrQ) (p q : Py) (h : Eqv p q) : Eqv (tkF (st.map eS) (eT t) p) (tkF st t q) := by
  unfold tkF
  rw [h.1, lefB_e, fiOf_e, List.length_map, rmF_e]
  exact enF_e st 26 _ _ _ _ (lvF_e st _ _ _ _ (rmF_eqv st _ _ _ _ h))
/-! The transitions. -/
def eH (t : TrH) : TrH := ⟨eT t.q, t.cv⟩
theorem eH_get (th : List TrH) (k : Nat) : (th.map eH)[k]? = (th[k]?).map eH := List.getElem?_map
theorem holdB_e (act : List Bool) (cs : List CdP) : holdB act (cs.map eC) = holdB act cs := by
  have h : fails act (cs.map eC) = fails act cs := by
    funext k; unfold fails; rw [List.getElem?_map]; cases cs[k]? <;> rfl
  unfold holdB; rw [h, List.length_map]
variable (th : List TrH)
theorem posB_e : posB (th.map eH) = posB th := by
  funext a b c k; unfold posB; rw [eH_get]
  cases th[k]? with
  | none => rfl
  | some t => show (t.q.own == b && (t.q.event == c && holdB a (t.q.conds.map eC))) = _; rw [holdB_e]
theorem fpo_e : fpo (th.map eH) = fpo th := by funext a b c; unfold fpo; rw [posB_e, List.length_map]
theorem cfF_e (act : List Bool) (ev : UInt8) : ∀ (f : Nat) (s : Int), cfF (st.map eS) (th.map eH) act ev f s = cfF st th act ev f s
  | 0, s => rfl
  | f + 1, s => by unfold cfF; rw [fpo_e, outAt_e, cfF_e act ev f]
theorem cl1_e : cl1 (st.map eS) (th.map eH) = cl1 st th := by
  funext a b c d; unfold cl1 cfO; rw [kindAt_e, cfF_e, List.length_map]
theorem clL_e : clL (st.map eS) (th.map eH) = clL st th := by
  funext a b; unfold clL clK; rw [cl1_e, List.length_map]
theorem wc1_e : wc1 (st.map eS) (th.map eH) = wc1 st th := by
  funext a z k; unfold wc1; rw [eH_get]
  cases th[k]? with
  | none => rfl
  | some t =>
    show (if mts (lefB (st.map eS) a (eT t.q)) z.2 = true then z else (z.1 ++ [k], unK z.2 (lefB (st.map eS) a (eT t.q)) 26)) = _
    rw [lefB_e]
theorem tkn_e : tkn (st.map eS) (th.map eH) = tkn st th := by
  funext a b; unfold tkn wcL; rw [wc1_e, clL_e]
theorem tk1_e (p q : Py) (n : Nat) (h : Eqv p q) : Eqv (tk1 (st.map eS) (th.map eH) p n) (tk1 st th q n) := by
  unfold tk1; rw [eH_get]
  cases th[n]? with
  | none => exact h
  | some t => exact tkF_e st t.q p q h
theorem fold_e : ∀ (ns : List Nat) (p q : Py), Eqv p q → Eqv (ns.foldl (tk1 (st.map eS) (th.map eH)) p) (ns.foldl (tk1 st th) q)
  | [], p, q, h => h
  | n :: ns, p, q, h => by
    rw [List.foldl_cons, List.foldl_cons]
    exact fold_e ns _ _ (tk1_e st th p q n h)
theorem evStep_e (p q : Py) (ev : UInt8) (h : Eqv p q) : Eqv (evStep (st.map eS) (th.map eH) p ev) (evStep st th q ev) := by
  unfold evStep spF
  show Eqv ((tkn (st.map eS) (th.map eH) p.act ev).foldl _ _) ((tkn st th q.act ev).foldl _ _)
  rw [h.1, tkn_e]
  exact fold_e st th _ _ _ ⟨rfl, h.2⟩
theorem plK_e (es : ByteArray) : ∀ k, Eqv (plK (st.map eS) (th.map eH) es k) (plK st th es k)
  | 0 => enF_e st 26 0 Am.free py0 py0 (Eqv.refl _)
  | k + 1 => evStep_e st th _ _ _ (plK_e es k)
end
/-! The errors, the marks. -/
theorem idxP_e (st : List StP) : idxP (st.map eS) = idxP st := by
  have h : isNmP (st.map eS) = isNmP st := by funext c k; unfold isNmP; rw [eS_get]; cases st[k]? <;> rfl
  funext c; unfold idxP; rw [h, List.length_map]
theorem dpP_e (st : List StP) : dpP (st.map eS) = dpP st := by funext k; unfold dpP; rw [eS_get]; cases st[k]? <;> rfl
theorem twP_e (st : List StP) : twP (st.map eS) = twP st := by funext k; unfold twP; rw [eS_get, idxP_e]; cases st[k]? <;> rfl
theorem kdP_e (st : List StP) : kdP (st.map eS) = kdP st := by funext k; unfold kdP; rw [eS_get]; cases st[k.toNat]? <;> rfl
theorem ftd_e {st st' : List StP} (h : st'.map eS = st.map eS) (h1 : ftd st = -1) : ftd st' = -1 := by
  have e : firstB (dpP st') st'.length = firstB (dpP st) st.length := by
    have hl : st'.length = st.length := by simpa using congrArg List.length h
    rw [← dpP_e st', ← dpP_e st, h, hl]
  have := ftd_none (st := st')
  rw [e, ftd_none (st := st)] at this
  have h2 := this.1 (by simp [h1])
  exact Decidable.not_not.1 h2
theorem ftw_e {st st' : List StP} (h : st'.map eS = st.map eS) (h1 : ftw st = -1) : ftw st' = -1 := by
  have e : firstB (twP st') st'.length = firstB (twP st) st.length := by
    have hl : st'.length = st.length := by simpa using congrArg List.length h
    rw [← twP_e st', ← twP_e st, h, hl]
  have := ftw_none (st := st')
  rw [e, ftw_none (st := st)] at this
  have h2 := this.1 (by simp [h1])
  exact Decidable.not_not.1 h2
/-- All names of a transition are known. -/
def NmOk (st : List StP) (t : TrQ) : Prop := (∀ c ∈ t.conds, ¬ idxP st c.name < 0) ∧ ¬ idxP st t.tn < 0
theorem rsv_iff (st : List StP) (tr : List TrQ) : rsv st tr = -1 ↔ ∀ t ∈ tr, NmOk st t := by
  unfold rsv
  constructor
  · intro h t ht
    have hn : (tr.flatMap refsQ).find? (badR st) = none := by
      cases e : (tr.flatMap refsQ).find? (badR st) with
      | none => rfl
      | some x => rw [e] at h; simp only at h; omega
    rw [List.find?_eq_none] at hn
    refine ⟨fun c hc => ?_, ?_⟩
    · have := hn (c.name, c.place) (List.mem_flatMap.2 ⟨t, ht, by unfold refsQ; exact List.mem_append.2 (Or.inl (List.mem_map.2 ⟨c, hc, rfl⟩))⟩)
      simpa [badR] using this
    · have := hn (t.tn, t.tp) (List.mem_flatMap.2 ⟨t, ht, by unfold refsQ; simp⟩)
      simpa [badR] using this
  · intro h
    have hn : (tr.flatMap refsQ).find? (badR st) = none := by
      rw [List.find?_eq_none]
      intro x hx
      obtain ⟨t, ht, hx⟩ := List.mem_flatMap.1 hx
      unfold refsQ at hx
      rcases List.mem_append.1 hx with hx | hx
      · obtain ⟨c, hc, rfl⟩ := List.mem_map.1 hx
        simpa [badR] using (h t ht).1 c hc
      · simp only [List.mem_cons, List.not_mem_nil, or_false] at hx
        subst hx
        simpa [badR] using (h t ht).2
    rw [hn]
theorem mrk_iff (st : List StP) (tr : List TrQ) : mrk st tr = -1 ↔ ∀ t ∈ tr, badM st t = false := by
  unfold mrk
  constructor
  · intro h t ht
    have hn : tr.find? (badM st) = none := by
      cases e : tr.find? (badM st) with
      | none => rfl
      | some x => rw [e] at h; simp only at h; omega
    rw [List.find?_eq_none] at hn
    simpa using hn t ht
  · intro h
    have hn : tr.find? (badM st) = none := by rw [List.find?_eq_none]; intro t ht; simp [h t ht]
    rw [hn]
theorem all_e {tr tr' : List TrQ} (h : tr'.map eT = tr.map eT) {P P' : TrQ → Prop} (hP : ∀ t t', eT t' = eT t → P t → P' t') (h1 : ∀ t ∈ tr, P t) : ∀ t ∈ tr', P' t := by
  intro t' ht'
  have h2 : eT t' ∈ tr.map eT := by rw [← h]; exact List.mem_map.2 ⟨t', ht', rfl⟩
  obtain ⟨t, ht, he⟩ := List.mem_map.1 h2
  exact hP t t' he.symm (h1 t ht)
theorem nmOk_e {st st' : List StP} (hs : st'.map eS = st.map eS) (t t' : TrQ) (h : eT t' = eT t) (h1 : NmOk st t) : NmOk st' t' := by
  have e : idxP st' = idxP st := by rw [← idxP_e st', hs, idxP_e]
  have hc : t'.conds.map eC = t.conds.map eC := by have h0 : (eT t').conds = (eT t).conds := congrArg TrQ.conds h; exact h0
  have ht : t'.tn = t.tn := by have h0 : (eT t').tn = (eT t).tn := congrArg TrQ.tn h; exact h0
  refine ⟨fun c hc' => ?_, by rw [e, ht]; exact h1.2⟩
  have h2 : eC c ∈ t.conds.map eC := by rw [← hc]; exact List.mem_map.2 ⟨c, hc', rfl⟩
  obtain ⟨d, hd, he⟩ := List.mem_map.1 h2
  have hn : d.name = c.name := by have h0 : (eC d).name = (eC c).name := congrArg CdP.name he; exact h0
  rw [e, ← hn]
  exact h1.1 d hd
theorem resQ_e {st st' : List StP} (hs : st'.map eS = st.map eS) (tr tr' : List TrQ) (h : tr'.map eT = tr.map eT) : (tr'.map (resQ st')).map eT = (tr.map (resQ st)).map eT := by
  have e : idxP st' = idxP st := by rw [← idxP_e st', hs, idxP_e]
  have hc : ∀ t, eT (resQ st t) = resQ st (eT t) := fun t => by
    unfold eT resQ
    simp only [List.map_map]
    congr 1
  have hr : resQ st' = resQ st := by
    have : resC st' = resC st := by funext c; unfold resC; rw [e]
    funext t; unfold resQ; rw [this, e]
  rw [hr, List.map_map, List.map_map]
  have h2 : eT ∘ resQ st = resQ st ∘ eT := by funext t; exact hc t
  rw [h2, ← List.map_map, ← List.map_map, h]
theorem mark1_e (st : List StP) (t : TrQ) : (mark1 st t).map eS = mark1 (st.map eS) (eT t) := by
  unfold mark1
  show _ = if t.mark = 0 then _ else if t.mark = 42 then ((st.map eS).modify t.ts.toNat setRem).modify t.ts.toNat setWh else (st.map eS).modify t.ts.toNat setRem
  split
  · rfl
  · split
    · rw [map_modify eS setWh setWh (fun x => rfl), map_modify eS setRem setRem (fun x => rfl)]
    · rw [map_modify eS setRem setRem (fun x => rfl)]
theorem markF_e : ∀ (tr : List TrQ) (st : List StP), (tr.foldl mark1 st).map eS = (tr.map eT).foldl mark1 (st.map eS)
  | [], st => rfl
  | t :: tr, st => by rw [List.foldl_cons, markF_e tr, mark1_e]; rfl
theorem unE_mk {s : ByteArray} (h1 : s.size ≤ 160) (h2 : rcK s = true) (h3 : ftd (rcR s).2.st = -1) (h4 : ftw (rcR s).2.st = -1) (h5 : rsv (rcR s).2.st (rcR s).2.tr = -1) (h6 : mrk (rcR s).2.st ((rcR s).2.tr.map (resQ (rcR s).2.st)) = -1) : unE s = (0, 0) := by
  unfold unE
  rw [if_neg (by omega), if_neg (by rw [h2]; decide), if_neg (by simp [h3]), if_neg (by simp [h4]), if_neg (by simp [h5]), if_neg (by simp [h6])]
theorem unE_ftd {s : ByteArray} (h : (unE s).1 = 0) : ftd (rcR s).2.st = -1 := by
  have h1 := unE_ok h
  unfold unE at h
  rw [if_neg (by omega), if_neg (by rw [h1.2.1]; decide)] at h
  by_cases h2 : ftd (rcR s).2.st ≠ -1
  · rw [if_pos h2] at h; cases h
  · exact Decidable.not_not.1 h2
theorem un_strip {s : ByteArray} (h : (unE s).1 = 0) : unE (strp s) = (0, 0) ∧ (unSt (strp s)).map eS = (unSt s).map eS ∧ (unTr (strp s)).map eT = (unTr s).map eT := by
  obtain ⟨a1, a2, a3, a4, a5⟩ := unE_ok h
  have a6 := unE_ftd h
  obtain ⟨b1, b2, b3⟩ := rd_strip a2
  have b4 := resQ_e b2 _ _ b3
  refine ⟨unE_mk (by have := strp_le s; omega) b1 (ftd_e b2 a6) (ftw_e b2 a3) ?_ ?_, ?_, b4⟩
  · rw [rsv_iff] at a4 ⊢
    exact all_e b3 (nmOk_e b2) a4
  · rw [mrk_iff] at a5 ⊢
    refine all_e b4 (fun t t' he h1 => ?_) a5
    have e : kdP (rcR (strp s)).2.st = kdP (rcR s).2.st := by rw [← kdP_e, b2, kdP_e]
    have e1 : t'.mark = t.mark := by have h0 : (eT t').mark = (eT t).mark := congrArg TrQ.mark he; exact h0
    have e2 : t'.ts = t.ts := by have h0 : (eT t').ts = (eT t).ts := congrArg TrQ.ts he; exact h0
    unfold badM at h1 ⊢
    rw [e, e1, e2]; exact h1
  · unfold unSt
    rw [markF_e, markF_e, b2, b4]
/-- The statuses are the same. -/
theorem strip_st {s : ByteArray} (h : (unE s).1 = 0) (es : ByteArray) : pS (strp s) es = pS s es := by
  obtain ⟨h1, h2, h3⟩ := un_strip h
  have hq : ((th0 (strp s)).map eH).map TrH.q = ((th0 s).map eH).map TrH.q := by
    have e : ∀ z, ((th0 z).map eH).map TrH.q = (unTr z).map eT := fun z => by unfold th0; rw [List.map_map, List.map_map]; rfl
    rw [e, e, h3]
  have e1 := plK_e (unSt (strp s)) (th0 (strp s)) es es.size
  have e2 := plK_e (unSt s) (th0 s) es es.size
  rw [h2, plK_congr hq] at e1
  have ea : (plQ (strp s) es).act = (plQ s es).act := e1.1.symm.trans e2.1
  have em : (plQ (strp s) es).mm = (plQ s es).mm := e1.2.symm.trans e2.2
  have hl : (unSt (strp s)).length = (unSt s).length := by simpa using congrArg List.length h2
  rw [pS, pS, if_pos h, if_pos (by rw [h1]), ea, em, ← stT_e (unSt (strp s)), h2, stT_e, hl]
end Go.Proofs.Ytmolmbeeoecnfaa
