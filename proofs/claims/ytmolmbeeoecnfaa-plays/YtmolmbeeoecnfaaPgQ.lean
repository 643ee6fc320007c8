/- Own work: plain facts for the document's game: the transitions; what holds along a play. -/
import Derived.Test.YtmolmbeeoecnfaaPgEZ
import Derived.Test.YtmolmbeeoecnfaaPgPZ
namespace Go.Proofs.Ytmolmbeeoecnfaa
open Go.RowKit Go.BigFrame
set_option linter.unusedVariables false
set_option linter.unusedSimpArgs false

theorem csStr_res (st : List StP) (cs : List CdP) : csStr (cs.map (resC st)) = csStr cs := by
  unfold csStr
  rw [List.flatMap_map]
  rfl
/-- The document's transitions of a right chart are the program's. -/
theorem un_trs {s : ByteArray} (h : (unE s).1 = 0) (G : GC) (hs : G.sts = (rd s).st) (ht : G.trs = (rd s).tr) : TrsR G (unSt s) (th0 s) := by
  obtain ⟨h160, hK, hw, hv, hm⟩ := unE_ok h
  have hok : (rcR s).1 = true := by
    simp only [rcK, Bool.and_eq_true] at hK
    exact hK.1
  have hM := (rd_eq s).1 hok
  have hp := plan_ok s h
  have hidx : ∀ c, idx G.sts c = idxP (rcR s).2.st c := fun c => by rw [hs, hM.st, idx_map]
  have hlen : G.sts.length = (rcR s).2.st.length := by rw [hs, hM.st, List.length_map]
  refine ⟨by rw [ht, hM.tr, List.length_map]; unfold th0 unTr; simp, fun k t hh h1 h2 => ?_⟩
  rw [ht, hM.tr, List.getElem?_map] at h1
  unfold th0 unTr at h2
  rw [List.map_map, List.getElem?_map] at h2
  cases hq : (rcR s).2.tr[k]? with
  | none => rw [hq] at h1; cases h1
  | some q0 =>
    rw [hq] at h1 h2
    simp only [Option.map_some, Option.some.injEq] at h1 h2
    subst h1
    subst h2
    have hmem : resQ (rcR s).2.st q0 ∈ unTr s := List.mem_map.2 ⟨q0, List.mem_of_getElem? hq, rfl⟩
    obtain ⟨p1, p2, p3, p4⟩ := hp.trs _ hmem
    refine ⟨⟨p1, rfl, hidx _⟩, rfl, (csStr_res _ _).symm, ?_, p3, rfl, rfl⟩
    intro c hc
    have h3 := p2 c hc
    obtain ⟨c0, hc0, rfl⟩ := List.mem_map.1 hc
    have h4 := idxP_bd (rcR s).2.st c0.name
    have h5 : (resC (rcR s).2.st c0).state = idxP (rcR s).2.st c0.name := rfl
    rw [h5] at h3
    refine ⟨(idxP (rcR s).2.st c0.name).toNat, ?_, ?_, ?_⟩
    · rw [hidx]; show idxP (rcR s).2.st c0.name = _; omega
    · rw [h5]; omega
    · rw [hlen]; omega
/-! Along a play. -/
theorem itF_keep {P : Py → Prop} (g : Nat → Py → Py) (hg : ∀ i p, P p → P (g i p)) : ∀ (n i : Nat) (p : Py), P p → P (itF g n i p)
  | 0, i, p, h => h
  | n + 1, i, p, h => itF_keep g hg n (i + 1) (g i p) (hg i p h)
theorem enF_mm (st : List StP) (m : List (List Bool)) : ∀ (f s : Nat) (a : Am) (p : Py), p.mm = m → (enF st f s a p).mm = m
  | 0, s, a, p, h => h
  | f + 1, s, a, p, h => by
    cases hx : st[s]? with
    | none => simp only [enF, hx]; exact h
    | some x =>
      by_cases h2 : x.kind = 2
      · rw [enF_and hx h2]
        refine itF_keep (P := fun q => q.mm = m) _ (fun i q hq => ?_) _ _ _ h
        split
        · exact enF_mm st m f i a q hq
        · exact hq
      · by_cases h3 : x.kind = 1
        · rw [enF_or hx h3]
          exact enF_mm st m f _ _ _ h
        · rw [enF_leaf hx h2 h3]; exact h
theorem hi_set {n : Nat} {l : List Bool} (h : NoHi n l) {k : Nat} (hk : k < n) (v : Bool) : NoHi n (l.set k v) := fun i hi => by
  rw [mem_set_ne (by omega)]; exact h i hi
theorem enF_hi (st : List StP) : ∀ (f s : Nat) (a : Am) (p : Py), NoHi st.length p.act → NoHi st.length (enF st f s a p).act
  | 0, s, a, p, h => h
  | f + 1, s, a, p, h => by
    cases hx : st[s]? with
    | none => simp only [enF, hx]; exact h
    | some x =>
      have hs := (List.getElem?_eq_some_iff.1 hx).1
      have h1 : NoHi st.length (p.act.set s true) := hi_set h hs true
      by_cases h2 : x.kind = 2
      · rw [enF_and hx h2]
        refine itF_keep (P := fun q => NoHi st.length q.act) _ (fun i q hq => ?_) _ _ _ h1
        split
        · exact enF_hi st f i a q hq
        · exact hq
      · by_cases h3 : x.kind = 1
        · rw [enF_or hx h3]
          exact enF_hi st f _ _ _ h1
        · rw [enF_leaf hx h2 h3]; exact h1
theorem lvF_mm (st : List StP) (left : List Bool) : ∀ (k : Nat) (p : Py), (lvF st left k p).mm = p.mm
  | 0, p => rfl
  | k + 1, p => by
    rw [lvF]
    split
    · rw [lvF_mm st left k]
    · exact lvF_mm st left k p
theorem lvF_hi (st : List StP) (left : List Bool) (k : Nat) (p : Py) (h : NoHi st.length p.act) : NoHi st.length (lvF st left k p).act := fun i hi => by
  rw [lvF_mem]
  split
  · rfl
  · exact h i hi
theorem lef_sub (st : List StP) (act : List Bool) (hl : act.length = 26) (q : TrQ) (i : Nat) (h : mem (lefB st act q) i = true) : mem act i = true := by
  unfold lefB at h
  split at h
  · exact h
  · unfold actB at h
    by_cases h26 : i < 26
    · rw [mem_bel _ _ _ _ h26] at h
      simp only [Bool.and_eq_true] at h
      exact h.2
    · rw [mem_farG (belK_len _ _ _) (by omega)] at h; cases h
theorem tkF_hi {st : List StP} (q : TrQ) (p : Py) (h : NoHi st.length p.act) : NoHi st.length (tkF st q p).act := by
  unfold tkF
  refine enF_hi st 26 _ _ _ ?_
  show NoHi st.length (lvF st _ st.length (rmF st _ st.length p)).act
  refine lvF_hi st _ _ _ ?_
  rw [rmF_act]; exact h
theorem tkF_mem {st : List StP} (q : TrQ) (p : Py) (hl : p.act.length = 26) (hL : Lg st p.act) (hm : MemI st p.mm) : MemI st (tkF st q p).mm := by
  have e : (tkF st q p).mm = (rmF st (lefB st p.act q) st.length p).mm := by
    unfold tkF
    exact enF_mm st _ 26 _ _ _ (lvF_mm st _ _ _)
  rw [e]
  exact memI_rm _ _ _ hl hL (fun i hi => lef_sub st p.act hl q i hi) hm
/-- What holds of the player, whatever happens. -/
structure PyI (st : List StP) (p : Py) : Prop where
  l : p.act.length = 26
  g : Lg st p.act
  h : NoHi st.length p.act
  m : MemI st p.mm
theorem fold_pyI {st : List StP} {th : List TrH} (ht : Tr st) : ∀ (ns : List Nat) (p : Py), PyI st p → (∀ n ∈ ns, ∀ t, th[n]? = some t → ScOn st p.act t.q) → ns.Pairwise (Apt st th) → PyI st (ns.foldl (tk1 st th) p)
  | [], p, hp, _, _ => hp
  | n :: ns, p, hp, hs, hpw => by
    rw [List.foldl_cons]
    rw [List.pairwise_cons] at hpw
    cases hx : th[n]? with
    | none =>
      have e : tk1 st th p n = p := by unfold tk1; rw [hx]
      rw [e]
      exact fold_pyI ht ns p hp (fun m hm => hs m (by simp [hm])) hpw.2
    | some t =>
      have e : tk1 st th p n = tkF st t.q p := by unfold tk1; rw [hx]
      rw [e]
      obtain ⟨h1, h2⟩ := tkF_lg ht t.q p hp.l hp.g (hs n (by simp) t hx)
      refine fold_pyI ht ns _ ⟨by rw [tkF_alen]; exact hp.l, h1, tkF_hi t.q p hp.h, tkF_mem t.q p hp.l hp.g hp.m⟩ ?_ hpw.2
      intro m hm u hu
      have hold := hs m (by simp [hm]) u hu
      rcases hpw.1 m hm t u hx hu with hc | ⟨da, db, q1, q2, q3⟩
      · exact Or.inl hc
      · rcases hold with hc | ⟨d, d1, d2, d3, d4⟩
        · exact Or.inl hc
        · refine Or.inr ⟨d, d1, d2, d3, ?_⟩
          have : d = db := by omega
          subst this
          rw [h2 da q1 d q3]; exact d4
theorem plK_pyI {st : List StP} (th : List TrH) (ht : Tr st) (es : ByteArray) : ∀ k, PyI st (plK st th es k)
  | 0 => by
    have h1 := plK_lg th ht es 0
    refine ⟨h1.1, h1.2, enF_hi st 26 0 Am.free py0 (fun i _ => mem_no i), ?_⟩
    show MemI st (enF st 26 0 Am.free py0).mm
    rw [enF_mm st py0.mm 26 0 Am.free py0 rfl]
    exact memI_0 st
  | k + 1 => by
    have ih := plK_pyI th ht es k
    show PyI st (evStep st th (plK st th es k) (byte es k))
    generalize plK st th es k = p at ih ⊢
    unfold evStep spF
    have hin : ∀ n ∈ tkn st th p.act (byte es k), OwnOn st th p.act n := by
      intro n hn
      rcases (wcF_in st th p.act (clL st th p.act (byte es k)) ([], noSet)).1 n hn with h3 | h3
      · simp at h3
      · exact clK_on ht ih.g _ _ (Nat.le_refl _) n h3
    have hpw : (tkn st th p.act (byte es k)).Pairwise (Dis st th p.act) := wcF_dis st th p.act _ ([], noSet) (fun a ha => by simp at ha) List.Pairwise.nil
    refine fold_pyI ht _ { p with out := p.out ++ [46] } ⟨ih.l, ih.g, ih.h, ih.m⟩ ?_ (pairwise_impl _ hpw (fun a ha b hb hd => apt_of ht ih.l ih.g (hin a ha) (hin b hb) hd))
    intro n hn t hx
    obtain ⟨t', e1, e2, e3⟩ := hin n hn
    rw [hx] at e1
    obtain rfl : t = t' := by injection e1
    exact scOn_of ht ih.g e2 e3
end Go.Proofs.Ytmolmbeeoecnfaa
