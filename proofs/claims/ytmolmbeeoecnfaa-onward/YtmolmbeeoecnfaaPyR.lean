/- Own work: the plan of a chart that is right keeps to what the player asks. -/
import Derived.Test.YtmolmbeeoecnfaaPyQ
namespace Go.Proofs.Ytmolmbeeoecnfaa
open Go.RowKit Go.BigFrame
set_option linter.unusedVariables false
set_option linter.unusedSimpArgs false

theorem pigeon : ∀ (n : Nat) (l : List Nat), l.Nodup → (∀ x ∈ l, x < n) → l.length ≤ n
  | 0, l, _, h => by
    cases l with
    | nil => exact Nat.le_refl _
    | cons a r => have := h a (by simp); omega
  | n + 1, l, hd, h => by
    have ih := pigeon n (l.erase n) (hd.erase n) (fun x hx => by
      have h1 := (hd.mem_erase_iff).1 hx
      have h2 := h x h1.2
      have h3 := h1.1
      omega)
    by_cases hm : n ∈ l
    · rw [List.length_erase_of_mem hm] at ih; omega
    · rw [List.erase_of_not_mem hm] at ih; omega
theorem idxP_le {st : List StP} {i : Nat} {x : StP} (h : st[i]? = some x) (c : UInt8) (hc : x.name = c) : idxP st c ≤ (i : Int) := by
  have hi := (List.getElem?_eq_some_iff.1 h).1
  have hp : isNmP st c i = true := by simp [isNmP, h, hc]
  unfold idxP
  rcases firstB_spec (isNmP st c) st.length with ⟨h1, h2⟩ | ⟨k, h1, h2, h3, h4⟩
  · have := h2 i hi; rw [hp] at this; cases this
  · rw [h1]
    show (k : Int) ≤ i
    by_cases hk : i < k
    · have := h4 i hk; rw [hp] at this; cases this
    · omega
theorem ftw_all {st : List StP} (h : ftw st = -1) {k : Nat} {x : StP} (hx : st[k]? = some x) : (k : Int) ≤ idxP st x.name := by
  have hk := (List.getElem?_eq_some_iff.1 hx).1
  unfold ftw at h
  rcases firstB_spec (twP st) st.length with ⟨h1, h2⟩ | ⟨j, h1, _⟩
  · have h3 := h2 k hk
    simp only [twP, hx, decide_eq_false_iff_not] at h3
    omega
  · rw [h1] at h; simp only at h; omega
theorem names_26 {st : List StP} (h : ftw st = -1) (hn : ∀ x ∈ st, isN x.name = true) : st.length ≤ 26 := by
  have hb : ∀ x ∈ st, 65 ≤ x.name.toNat ∧ x.name.toNat ≤ 90 := by
    intro x hx
    have h1 := hn x hx
    simp only [isN, Bool.and_eq_true, decide_eq_true_eq] at h1
    exact ⟨UInt8.le_iff_toNat_le.1 h1.1, UInt8.le_iff_toNat_le.1 h1.2⟩
  have hp := pigeon 26 (st.map fun x => x.name.toNat - 65) ?_ ?_
  · simpa using hp
  · rw [List.Nodup, List.pairwise_iff_getElem]
    intro i j hi hj hij e
    simp only [List.getElem_map] at e
    simp only [List.length_map] at hi hj
    have b1 := hb _ (List.getElem_mem hi)
    have b2 := hb _ (List.getElem_mem hj)
    have en : st[i].name = st[j].name := UInt8.toNat_inj.1 (by omega)
    have h1 := ftw_all h (List.getElem?_eq_getElem hj)
    have h2 := idxP_le (List.getElem?_eq_getElem hi) st[j].name en
    omega
  · intro x hx
    obtain ⟨y, hy, rfl⟩ := List.mem_map.1 hx
    have := hb y hy
    omega

/-- The marks change nothing else. -/
structure SmX (x y : StP) : Prop where
  e : x.end_ = y.end_
  o : x.outer = y.outer
  k : x.kind = y.kind
  en : x.enter = y.enter
  le : x.leave = y.leave
  n : x.name = y.name
  r : x.rem = true → y.rem = true ∨ y.kind = 1
def Sm (st0 st : List StP) : Prop := st.length = st0.length ∧ ∀ (k : Nat) (x : StP), st[k]? = some x → ∃ y, st0[k]? = some y ∧ SmX x y
theorem Sm.refl (st : List StP) : Sm st st := ⟨rfl, fun k x h => ⟨x, h, ⟨rfl, rfl, rfl, rfl, rfl, rfl, Or.inl⟩⟩⟩
theorem Sm.modify {st0 st : List StP} (h : Sm st0 st) (i : Nat) (g : StP → StP) (hg : ∀ x y, st0[i]? = some y → SmX x y → SmX (g x) y) : Sm st0 (st.modify i g) := by
  refine ⟨by rw [List.length_modify]; exact h.1, fun k x hx => ?_⟩
  rw [List.getElem?_modify] at hx
  cases h6 : st[k]? with
  | none => rw [h6] at hx; simp at hx
  | some z =>
    obtain ⟨y, hy, hs⟩ := h.2 k z h6
    refine ⟨y, hy, ?_⟩
    rw [h6] at hx
    by_cases hik : i = k
    · simp only [hik, if_pos, Option.map_eq_map, Option.map_some, Option.some.injEq] at hx
      rw [← hx]
      exact hg z y (by rw [hik]; exact hy) hs
    · simp [hik] at hx
      rw [← hx]; exact hs
theorem Sm.mark1 {st0 st : List StP} (h : Sm st0 st) (t : TrQ) (hb : badM st0 t = false) : Sm st0 (mark1 st t) := by
  unfold Proofs.Ytmolmbeeoecnfaa.mark1
  split
  · exact h
  · rename_i hm
    have hk : kdP st0 t.ts = 1 := by
      simp only [badM, Bool.and_eq_false_iff, Bool.not_eq_false', beq_iff_eq] at hb
      rcases hb with hb | hb
      · exact absurd hb hm
      · exact hb
    have hR : ∀ x y, st0[t.ts.toNat]? = some y → SmX x y → SmX (setRem x) y := by
      intro x y hy hs
      refine ⟨hs.e, hs.o, hs.k, hs.en, hs.le, hs.n, fun _ => Or.inr ?_⟩
      simp only [kdP, hy] at hk
      exact hk
    have hW : ∀ x y, st0[t.ts.toNat]? = some y → SmX x y → SmX (setWh x) y := fun x y _ hs => ⟨hs.e, hs.o, hs.k, hs.en, hs.le, hs.n, hs.r⟩
    split
    · exact (h.modify _ _ hR).modify _ _ hW
    · exact h.modify _ _ hR
theorem Sm.fold {st0 : List StP} : ∀ (tr : List TrQ) (st : List StP), Sm st0 st → (∀ t ∈ tr, badM st0 t = false) → Sm st0 (tr.foldl Proofs.Ytmolmbeeoecnfaa.mark1 st)
  | [], st, h, _ => h
  | t :: tr, st, h, hb => Sm.fold tr _ (h.mark1 t (hb t (by simp))) (fun u hu => hb u (by simp [hu]))

theorem unE_ok {s : ByteArray} (h : (unE s).1 = 0) : s.size ≤ 160 ∧ rcK s = true ∧ ftw (rcR s).2.st = -1 ∧ rsv (rcR s).2.st (rcR s).2.tr = -1 ∧ mrk (rcR s).2.st ((rcR s).2.tr.map (resQ (rcR s).2.st)) = -1 := by
  unfold unE at h
  split at h
  · cases h
  · split at h
    · cases h
    · split at h
      · cases h
      · split at h
        · cases h
        · split at h
          · cases h
          · split at h
            · cases h
            · rename_i h1 h2 h3 h4 h5 h6
              exact ⟨by omega, by simpa using h2, by omega, by omega, by omega⟩
theorem plan_ok (s : ByteArray) (h : (unE s).1 = 0) : PlOk (unSt s) (unTr s) := by
  obtain ⟨h160, hK, hw, hv, hm⟩ := unE_ok h
  have hok : (rcR s).1 = true := by
    simp only [rcK, Bool.and_eq_true] at hK
    exact hK.1
  have hI0 : RdInv s R0 := ⟨Nat.zero_le _, Nat.le_refl _, Nat.le_refl _⟩
  have hsh := rsF_shp s (s.size + 1) R0 (-1) 1 hI0 (by show s.size - 0 < _; omega) (Int.le_refl _) (by show (-1 : Int) < ((0 : Nat) : Int); omega) hok
  have hgo := rsF_goes s (s.size + 1) R0 (-1) 1 hI0 (by show s.size - 0 < _; omega) hok
  have hcd : CdOk s (rcR s).2 := CdOk.rsF _ _ _ _ (fun t ht => by simp [R0] at ht)
  have hinv : RdInv s (rcR s).2 := hgo.inv
  have hShp : Shp s R0 (rcR s).2 := hsh.1
  have hpos : 0 < (rcR s).2.st.length := hsh.2
  unfold unSt unTr
  generalize (rcR s).2 = q at *
  have hE : ∀ (k : Nat) (x : StP), q.st[k]? = some x → StK s q.st.length k x := fun k x hx => hShp.each k x (Nat.zero_le _) hx
  have h26 : q.st.length ≤ 26 := names_26 hw (fun x hx => by
    obtain ⟨k, hk⟩ := List.mem_iff_getElem?.1 hx
    exact (hE k x hk).nm)
  have hbm : ∀ t ∈ q.tr.map (resQ q.st), badM q.st t = false := by
    intro t ht
    unfold mrk at hm
    cases hf : (q.tr.map (resQ q.st)).find? (badM q.st) with
    | some x => rw [hf] at hm; simp only at hm; omega
    | none => simpa using List.find?_eq_none.1 hf t ht
  have hS : Sm q.st ((q.tr.map (resQ q.st)).foldl mark1 q.st) := Sm.fold _ _ (Sm.refl _) hbm
  have hgood : ∀ t ∈ q.tr, ∀ x ∈ refsQ t, 0 ≤ idxP q.st x.1 := by
    intro t ht x hx
    unfold rsv at hv
    cases hf : (q.tr.flatMap refsQ).find? (badR q.st) with
    | some y => rw [hf] at hv; simp only at hv; omega
    | none =>
      have h1 := List.find?_eq_none.1 hf x (List.mem_flatMap.2 ⟨t, ht, hx⟩)
      simp [badR] at h1
      exact h1
  generalize (q.tr.map (resQ q.st)).foldl mark1 q.st = st at *
  have hl := hS.1
  refine ⟨⟨by omega, ?_, ?_, ?_⟩, ?_, ?_, by omega, ?_, ?_⟩
  · intro k x hx
    obtain ⟨y, hy, hs⟩ := hS.2 k x hx
    have := hE k y hy
    rw [hs.e, hl]; exact ⟨this.e1, this.e2⟩
  · intro k x hx
    obtain ⟨y, hy, hs⟩ := hS.2 k x hx
    have := hE k y hy
    rw [hs.o]; exact ⟨this.o1, this.o2⟩
  · intro k x hx hkd
    obtain ⟨y, hy, hs⟩ := hS.2 k x hx
    have := hE k y hy
    rw [hs.e]; exact this.kd (by rw [← hs.k]; exact hkd)
  · intro x hx
    obtain ⟨k, hk⟩ := List.mem_iff_getElem?.1 hx
    obtain ⟨y, hy, hs⟩ := hS.2 k x hk
    have h1 := (hE k y hy).en
    have h2 := (hE k y hy).le
    rw [hs.en, hs.le]; omega
  · intro k x hx hr
    obtain ⟨y, hy, hs⟩ := hS.2 k x hx
    rw [hs.k]
    rcases hs.r hr with h1 | h1
    · rw [(hE k y hy).rm] at h1; cases h1
    · omega
  · intro t ht
    obtain ⟨t0, ht0, rfl⟩ := List.mem_map.1 ht
    have h1 : t0.own < q.st.length ∧ t0.acts.size ≤ s.size := by
      rcases hShp.trs t0 ht0 with h1 | h1
      · simp [R0] at h1
      · exact h1
    have h2 := idxP_bd q.st t0.tn
    have h3 := hgood t0 ht0 (t0.tn, t0.tp) (List.mem_append_right _ (by simp))
    have h4 := hcd t0 ht0
    refine ⟨⟨by rw [hl]; exact h1.1, h3, by rw [hl]; exact h2.2⟩, ?_, ?_, by show t0.acts.size ≤ 160; omega⟩
    · intro c hc
      obtain ⟨c0, hc0, rfl⟩ := List.mem_map.1 hc
      have h5 := hgood t0 ht0 (c0.name, c0.place) (List.mem_append_left _ (List.mem_map.2 ⟨c0, hc0, rfl⟩))
      have h6 := idxP_bd q.st c0.name
      exact ⟨h5, by show idxP q.st c0.name < 26; omega⟩
    · show (t0.conds.map (resC q.st)).length ≤ _
      rw [List.length_map]; omega
  · rw [List.length_map]
    have := hinv.2.2
    have := hinv.1
    omega
end Go.Proofs.Ytmolmbeeoecnfaa
