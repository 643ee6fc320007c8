/- Own work: what the law Legal asks, out of the plain facts. -/
import Derived.Test.YtmolmbeeoecnfaaLgZ
import Derived.Test.YtmolmbeeoecnfaaLgY
import Derived.Test.YtmolmbeeoecnfaaEqZ
namespace Go.Proofs.Ytmolmbeeoecnfaa
open Go.RowKit Go.BigFrame
set_option linter.unusedVariables false
set_option linter.unusedSimpArgs false

theorem nmK_pre (st : List StP) (l : List Bool) (i : Nat) : ∀ k, i ≤ k → nmK st l i <+: nmK st l k
  | 0, h => by have : i = 0 := by omega
               subst this; exact List.prefix_refl _
  | k + 1, h => by
    by_cases e : i = k + 1
    · rw [e]; exact List.prefix_refl _
    · refine (nmK_pre st l i k (by omega)).trans ?_
      rw [nmK]; split
      · exact List.prefix_append _ _
      · exact List.prefix_refl _
theorem nmK_mem (st : List StP) (l : List Bool) (c : UInt8) : ∀ k, c ∈ nmK st l k ↔ ∃ j, j < k ∧ mem l j = true ∧ nameAt st j = c
  | 0 => by simp [nmK]
  | k + 1 => by
    have ih := nmK_mem st l c k
    rw [nmK]
    by_cases h : mem l k = true
    · rw [if_pos h, List.mem_append, ih]
      constructor
      · rintro (⟨j, h1, h2, h3⟩ | h1)
        · exact ⟨j, by omega, h2, h3⟩
        · simp only [List.mem_cons, List.not_mem_nil, or_false] at h1
          exact ⟨k, by omega, h, h1.symm⟩
      · rintro ⟨j, h1, h2, h3⟩
        by_cases e : j = k
        · subst e; exact Or.inr (by simp [h3])
        · exact Or.inl ⟨j, by omega, h2, h3⟩
    · rw [if_neg h, ih]
      constructor
      · rintro ⟨j, h1, h2, h3⟩; exact ⟨j, by omega, h2, h3⟩
      · rintro ⟨j, h1, h2, h3⟩
        by_cases e : j = k
        · subst e; exact absurd h2 h
        · exact ⟨j, by omega, h2, h3⟩
theorem hasB_mem (S : ByteArray) (c : UInt8) : hasB S c = true ↔ c ∈ S.data.toList := by
  unfold hasB
  rcases firstB_spec (fun k => byte S k == c) S.size with ⟨h1, h2⟩ | ⟨k, h1, h2, h3, -⟩
  · rw [h1]
    constructor
    · intro h; cases h
    · intro h
      obtain ⟨k, hk⟩ := List.mem_iff_getElem?.1 h
      obtain ⟨h3, h4⟩ := List.getElem?_eq_some_iff.1 hk
      have h5 : k < S.size := h3
      have h6 := h2 k h5
      rw [beq_eq_false_iff_ne] at h6
      exact absurd (by rw [byte_in S k h5]; exact h4) h6
  · rw [h1]
    constructor
    · intro _
      rw [beq_iff_eq, byte_in S k h2] at h3
      rw [← h3]
      exact List.getElem_mem (l := S.data.toList) (n := k) h2
    · intro _; rfl
theorem stT_form (st : List StP) (act : List Bool) (mm : List (List Bool)) : ∀ k, ∃ rest, stT st act mm k = nmK st act st.length ++ rest ∧ (rest = [] ∨ ∃ r, rest = 47 :: r)
  | 0 => ⟨[], by rw [stT, List.append_nil], Or.inl rfl⟩
  | k + 1 => by
    obtain ⟨rest, h1, h2⟩ := stT_form st act mm k
    rw [stT]
    split
    · exact ⟨rest, h1, h2⟩
    · refine ⟨rest ++ [47, nameAt st k] ++ nmK st (memAt mm k) st.length, by rw [h1]; simp, Or.inr ?_⟩
      rcases h2 with h2 | ⟨r, h2⟩
      · subst h2; exact ⟨_, rfl⟩
      · subst h2; exact ⟨_, rfl⟩
theorem cnt_congr {P Q : Nat → Bool} : ∀ k, (∀ j, j < k → P j = Q j) → cnt P k = cnt Q k
  | 0, _ => rfl
  | k + 1, h => by rw [cnt, cnt, cnt_congr k (fun j hj => h j (by omega)), h k (by omega)]
theorem cnt_one {P : Nat → Bool} {c : Nat} (hc : P c = true) : ∀ k, c < k → (∀ j, j < k → P j = true → j = c) → cnt P k = 1
  | 0, h, _ => by omega
  | k + 1, h, hu => by
    rw [cnt]
    by_cases e : c = k
    · subst e
      rw [if_pos hc, cnt_none P c (fun j hj => by
        cases hp : P j with
        | false => rfl
        | true => have := hu j (by omega) hp; omega)]
    · rw [cnt_one hc k (by omega) (fun j hj => hu j (by omega)), if_neg]
      intro hp
      have := hu k (by omega) hp
      omega

/-- The document's states are the program's. -/
structure Lk (sts : List StR) (st : List StP) : Prop where
  len : sts.length = st.length
  nm : ∀ k, nmAt sts k = nameAt st k
  pa : ∀ k, parAt sts k = outAt st k
  en : ∀ (k : Nat) (x : StR), sts[k]? = some x → x.end_ = endAt st k ∧ x.kind = kindAt st k ∧ x.name = nameAt st k
theorem un_names {s : ByteArray} (h : (unE s).1 = 0) : (∀ k, k < (unSt s).length → isN (nameAt (unSt s) k) = true) ∧ ∀ i k, i < k → k < (unSt s).length → nameAt (unSt s) i ≠ nameAt (unSt s) k := by
  obtain ⟨h160, hK, hw, hv, hm⟩ := unE_ok h
  have hok : (rcR s).1 = true := by
    simp only [rcK, Bool.and_eq_true] at hK
    exact hK.1
  have hI0 : RdInv s R0 := ⟨Nat.zero_le _, Nat.le_refl _, Nat.le_refl _⟩
  have hsh := rsF_shp s (s.size + 1) R0 (-1) 1 hI0 (by show s.size - 0 < _; omega) (Int.le_refl _) (by show (-1 : Int) < ((0 : Nat) : Int); omega) hok
  have hShp : Shp s R0 (rcR s).2 := hsh.1
  have hS := un_sm h
  have hl := hS.1
  have hget : ∀ k, k < (unSt s).length → ∃ y, (rcR s).2.st[k]? = some y ∧ nameAt (unSt s) k = y.name := by
    intro k hk
    obtain ⟨x, hx⟩ : ∃ x, (unSt s)[k]? = some x := ⟨_, List.getElem?_eq_getElem hk⟩
    obtain ⟨y, hy, hs⟩ := hS.2 k x hx
    exact ⟨y, hy, by rw [nameAt_at hx]; exact hs.n⟩
  refine ⟨fun k hk => ?_, fun i k hik hk he => ?_⟩
  · obtain ⟨y, hy, hn⟩ := hget k hk
    rw [hn]; exact (hShp.each k y (Nat.zero_le _) hy).nm
  · obtain ⟨y, hy, hn⟩ := hget k hk
    obtain ⟨z, hz, hn2⟩ := hget i (by omega)
    have h1 := ftw_all hw hy
    have h2 := idxP_le hz y.name (by rw [← hn2, ← hn]; exact he)
    omega
theorem un_lk {s : ByteArray} (h : (unE s).1 = 0) : Lk (rd s).st (unSt s) := by
  obtain ⟨h160, hK, hw, hv, hm⟩ := unE_ok h
  have hok : (rcR s).1 = true := by
    simp only [rcK, Bool.and_eq_true] at hK
    exact hK.1
  have hM := (rd_eq s).1 hok
  have hS := un_sm h
  have hl := hS.1
  have hg : ∀ k, (rd s).st[k]? = ((rcR s).2.st[k]?).map toR := fun k => by rw [hM.st, List.getElem?_map]
  have hnone : ∀ k, (unSt s)[k]? = none → (rcR s).2.st[k]? = none := fun k hk => by
    rw [List.getElem?_eq_none_iff] at hk ⊢; omega
  refine ⟨by rw [hM.st, List.length_map, hl], fun k => ?_, fun k => ?_, fun k x hx => ?_⟩
  · unfold nmAt nameAt
    rw [hg]
    cases hx : (unSt s)[k]? with
    | none => rw [hnone k hx]; rfl
    | some x => obtain ⟨y, hy, hs⟩ := hS.2 k x hx; rw [hy]; exact hs.n.symm
  · unfold parAt outAt
    rw [hg]
    cases hx : (unSt s)[k]? with
    | none => rw [hnone k hx]; rfl
    | some x => obtain ⟨y, hy, hs⟩ := hS.2 k x hx; rw [hy]; exact hs.o.symm
  · rw [hg] at hx
    cases hz : (unSt s)[k]? with
    | none => rw [hnone k hz] at hx; cases hx
    | some z =>
      obtain ⟨y, hy, hs⟩ := hS.2 k z hz
      rw [hy] at hx
      simp only [Option.map_some, Option.some.injEq] at hx
      subst hx
      rw [endAt_at hz, kindAt_at hz, nameAt_at hz]
      exact ⟨hs.e.symm, hs.k.symm, hs.n.symm⟩
/-- The active states' names. -/
def onT (s es : ByteArray) : ByteArray := ⟨(nmK (unSt s) (plQ s es).act (unSt s).length).toArray⟩
theorem onT_l (s es : ByteArray) : (onT s es).data.toList = nmK (unSt s) (plQ s es).act (unSt s).length := by unfold onT; simp
theorem onT_sz (s es : ByteArray) : (onT s es).size = (nmK (unSt s) (plQ s es).act (unSt s).length).length := by
  have : (onT s es).size = (onT s es).data.toList.length := rfl
  rw [this, onT_l]
theorem byte_get {S : ByteArray} {k : Nat} {c : UInt8} (h : S.data.toList[k]? = some c) : k < S.size ∧ byte S k = c := by
  obtain ⟨h1, h2⟩ := List.getElem?_eq_some_iff.1 h
  have h3 : k < S.size := h1
  exact ⟨h3, by rw [byte_in S k h3]; exact h2⟩
theorem leg_ok {s : ByteArray} (h : (unE s).1 = 0) (es : ByteArray) : LegOk (onT s es) (rd s).st := by
  obtain ⟨ht, hal, hL⟩ := un_lg h es
  obtain ⟨hN1, hN2⟩ := un_names h
  have hk := un_lk h
  have h26 := ht.wf.len
  have hl := onT_l s es
  have hsz := onT_sz s es
  generalize onT s es = on at *
  generalize (plQ s es).act = act at *
  generalize unSt s = st at *
  have hhas : ∀ i, i < st.length → hasB on (nameAt st i) = mem act i := by
    intro i hi
    rw [Bool.eq_iff_iff, hasB_mem, hl, nmK_mem]
    constructor
    · rintro ⟨j, h1, h2, h3⟩
      have : j = i := by
        rcases Nat.lt_trichotomy j i with e | e | e
        · exact absurd h3 (hN2 j i e hi)
        · exact e
        · exact absurd h3.symm (hN2 i j e h1)
      subst this; exact h2
    · intro h1; exact ⟨i, hi, h1, rfl⟩
  have hlt : ∀ (k : Nat) (x : StR), (rd s).st[k]? = some x → k < st.length := fun k x hx => by
    have := (List.getElem?_eq_some_iff.1 hx).1
    rw [hk.len] at this; exact this
  have hchA : ∀ i j, j < st.length → chA on (rd s).st i j = (decide (i < j) && (outAt st j == (i : Int)) && mem act j) := by
    intro i j hj
    unfold chA chN
    rw [hk.pa, hk.nm, hhas j hj]
  have hchN : ∀ i j, chN (rd s).st i j = (decide (i < j) && (outAt st j == (i : Int))) := by
    intro i j
    unfold chN
    rw [hk.pa]
  refine ⟨by rw [hk.len]; exact h26, ?_, ⟨fun i => (nmK st act i).length, rfl, by rw [hk.len, hsz], ?_⟩, ?_, ?_, ?_, ?_⟩
  · rw [hsz]; have := nmK_len st act st.length; omega
  · intro i hi
    rw [hk.len] at hi
    rw [hk.nm, hhas i hi]
    refine ⟨fun h1 => ?_, fun h1 => ⟨by show (nmK st act (i + 1)).length = _; rw [nmK, if_neg (by simp [h1])], ?_⟩⟩
    · have hpre := nmK_pre st act (i + 1) st.length (by omega)
      have e : nmK st act (i + 1) = nmK st act i ++ [nameAt st i] := by rw [nmK, if_pos h1]
      have hg : on.data.toList[(nmK st act i).length]? = some (nameAt st i) := by
        rw [hl, pre_get hpre (by rw [e]; simp), e]; simp
      obtain ⟨g1, g2⟩ := byte_get hg
      exact ⟨g1, g2, by show (nmK st act (i + 1)).length = _; rw [e]; simp⟩
    · intro e
      subst e
      rw [hL.rt] at h1; cases h1
  · intro i x hx
    have hi := hlt i x hx
    rw [(hk.en i x hx).1, hk.len]
    exact ht.end_gt hi
  · intro i x hx hf
    have hi := hlt i x hx
    obtain ⟨e1, e2, e3⟩ := hk.en i x hx
    rw [e3, hhas i hi] at hf
    rw [e1]
    have hen := ht.end_gt hi
    refine cnt_none _ _ (fun j hj => ?_)
    rw [hchA i j (by omega)]
    cases ho : (outAt st j == (i : Int)) with
    | false => simp
    | true =>
      rw [beq_iff_eq] at ho
      rw [(hL.loc i hi).off hf j (by omega) ho]; simp
  · intro i x hx hf hkd
    have hi := hlt i x hx
    obtain ⟨e1, e2, e3⟩ := hk.en i x hx
    rw [e3, hhas i hi] at hf
    rw [e2] at hkd
    rw [e1]
    have hen := ht.end_gt hi
    obtain ⟨c, c1, c2, c3, c4⟩ := (hL.loc i hi).one hf hkd
    have hcr := ht.child c1 c2
    refine cnt_one (c := c) ?_ _ hcr.2 ?_
    · rw [hchA i c c1]; simp [hcr.1, c2, c3]
    · intro j hj hp
      rw [hchA i j (by omega)] at hp
      simp only [Bool.and_eq_true, decide_eq_true_eq, beq_iff_eq] at hp
      exact c4 j (by omega) hp.1.2 hp.2
  · intro i x hx hf hkd
    have hi := hlt i x hx
    obtain ⟨e1, e2, e3⟩ := hk.en i x hx
    rw [e3, hhas i hi] at hf
    rw [e2] at hkd
    rw [e1]
    have hen := ht.end_gt hi
    refine cnt_congr _ (fun j hj => ?_)
    rw [hchA i j (by omega), hchN]
    cases ho : (outAt st j == (i : Int)) with
    | false => simp
    | true =>
      rw [beq_iff_eq] at ho
      rw [(hL.loc i hi).all hf hkd j (by omega) ho]; simp
/-- The status' text begins with them. -/
theorem st_text {s : ByteArray} (h : (unE s).1 = 0) (es : ByteArray) : (pS s es).size ≤ 1000000 ∧ (onT s es).size ≤ (pS s es).size ∧ onT s es = (pS s es).extract 0 (onT s es).size ∧ (∀ i, i < (onT s es).size → byte (pS s es) i ≠ 47) ∧ ((onT s es).size = (pS s es).size ∨ byte (pS s es) (onT s es).size = 47) := by
  obtain ⟨ht, hal, hL⟩ := un_lg h es
  obtain ⟨hN1, -⟩ := un_names h
  have h26 := ht.wf.len
  obtain ⟨rest, r1, r2⟩ := stT_form (unSt s) (plQ s es).act (plQ s es).mm (unSt s).length
  have hpl : (pS s es).data.toList = nmK (unSt s) (plQ s es).act (unSt s).length ++ rest := by rw [pS, if_pos h, ← r1]
  have hps : (pS s es).size = (nmK (unSt s) (plQ s es).act (unSt s).length).length + rest.length := by
    have : (pS s es).size = (pS s es).data.toList.length := rfl
    rw [this, hpl, List.length_append]
  have hsl := stT_len (unSt s) (plQ s es).act (plQ s es).mm h26 (unSt s).length
  rw [r1, List.length_append] at hsl
  have hl := onT_l s es
  have hsz := onT_sz s es
  have hno : ∀ c ∈ nmK (unSt s) (plQ s es).act (unSt s).length, c ≠ 47 := by
    intro c hc e
    obtain ⟨j, j1, j2, j3⟩ := (nmK_mem _ _ c _).1 hc
    have := hN1 j j1
    rw [j3, e] at this
    revert this; decide
  generalize onT s es = on at *
  generalize pS s es = S at *
  generalize nmK (unSt s) (plQ s es).act (unSt s).length = N at *
  refine ⟨?_, by omega, ?_, ?_, ?_⟩
  · have : (unSt s).length * 28 ≤ 26 * 28 := Nat.mul_le_mul h26 (Nat.le_refl _)
    omega
  · apply ByteArray.ext
    rw [ByteArray.data_extract]
    apply Array.toList_inj.1
    rw [Array.toList_extract, List.extract_eq_take_drop]
    simp only [List.drop_zero, Nat.sub_zero]
    rw [hl, hpl, hsz, List.take_left]
  · intro i hi
    rw [hsz] at hi
    obtain ⟨g1, g2⟩ := byte_get (S := S) (k := i) (c := N[i]) (by rw [hpl, List.getElem?_append_left hi, List.getElem?_eq_getElem hi])
    rw [g2]; exact hno _ (List.getElem_mem _)
  · rcases r2 with e | ⟨r, e⟩
    · subst e; left; simp at hps; omega
    · subst e
      right
      exact (byte_get (S := S) (by rw [hpl, hsz, List.getElem?_append_right (Nat.le_refl _)]; simp)).2
end Go.Proofs.Ytmolmbeeoecnfaa
