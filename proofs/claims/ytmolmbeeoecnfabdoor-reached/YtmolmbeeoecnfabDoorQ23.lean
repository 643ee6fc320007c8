/- Own work: PyZ7. -/
import Derived.Test.YtmolmbeeoecnfabDoorQ20
/- Own work: the shape of what the program's reader has read. -/
namespace Go.Proofs.YtmolmbeeoecnfabDoor
open Go.RowKit Go.BigFrame
set_option linter.unusedVariables false
set_option linter.unusedSimpArgs false

/-- What is said of state k, among n of them. -/
structure StK (s : ByteArray) (n k : Nat) (x : StP) : Prop where
  e1 : k < x.end_
  e2 : x.end_ ≤ n
  o1 : -1 ≤ x.outer
  o2 : x.outer < k
  kd : x.kind ≠ 0 → k + 1 < x.end_
  en : x.enter.size ≤ s.size
  le : x.leave.size ≤ s.size
  nm : isN x.name = true
  rm : x.rem = false
theorem StK.mono {s : ByteArray} {n m k : Nat} {x : StP} (h : StK s n k x) (hn : n ≤ m) : StK s m k x := ⟨h.e1, Nat.le_trans h.e2 hn, h.o1, h.o2, h.kd, h.en, h.le, h.nm, h.rm⟩
structure Shp (s : ByteArray) (r q : Rn) : Prop where
  pre : r.st <+: q.st
  each : ∀ (k : Nat) (x : StP), r.st.length ≤ k → q.st[k]? = some x → StK s q.st.length k x
  trs : ∀ t ∈ q.tr, t ∈ r.tr ∨ (t.own < q.st.length ∧ t.acts.size ≤ s.size)
theorem Shp.refl (s : ByteArray) (r : Rn) : Shp s r r := ⟨List.prefix_refl _, fun k x h hx => by have := (List.getElem?_eq_some_iff.1 hx).1; omega, fun t ht => Or.inl ht⟩
theorem pre_get {α : Type} {l m : List α} (h : l <+: m) {k : Nat} (hk : k < l.length) : m[k]? = l[k]? := by
  obtain ⟨t, rfl⟩ := h
  exact List.getElem?_append_left hk
theorem Shp.trans {s : ByteArray} {r q z : Rn} (h : Shp s r q) (g : Shp s q z) : Shp s r z where
  pre := h.pre.trans g.pre
  each := fun k x hk hx => by
    by_cases hq : k < q.st.length
    · rw [pre_get g.pre hq] at hx
      exact (h.each k x hk hx).mono g.pre.length_le
    · exact g.each k x (by omega) hx
  trs := fun t ht => by
    rcases g.trs t ht with h1 | h1
    · rcases h.trs t h1 with h2 | h2
      · exact Or.inl h2
      · exact Or.inr ⟨Nat.lt_of_lt_of_le h2.1 g.pre.length_le, h2.2⟩
    · exact Or.inr h1
theorem cut_le (s : ByteArray) (i j : Nat) : (cut s i j).size ≤ s.size := by
  show ((s.data.toList.drop i).take (j - i)).toArray.size ≤ _
  rw [List.size_toArray, List.length_take, List.length_drop]
  have : s.data.toList.length = s.size := rfl
  omega
theorem abS_le (s : ByteArray) (sg : UInt8) (i : Nat) : (abS s sg i).size ≤ s.size := by
  unfold abS; split
  · exact cut_le _ _ _
  · exact Nat.zero_le _
theorem rtP_own (s : ByteArray) (own i : Nat) (h : (rtP s own i).1 = true) : (rtP s own i).2.2.own = own ∧ (rtP s own i).2.2.acts.size ≤ s.size := by
  unfold rtP at h ⊢
  simp only at h ⊢
  split at h
  · cases h
  · rw [if_neg ‹_›]
    split at h
    · cases h
    · rw [if_neg ‹_›]
      split at h
      · cases h
      · rw [if_neg ‹_›]
        split at h
        · cases h
        · rw [if_neg ‹_›]
          exact ⟨rfl, cut_le _ _ _⟩
theorem rtF_trs (s : ByteArray) (own : Nat) : ∀ (f : Nat) (r : Rn), (rtF s own f r).1 = true → (rtF s own f r).2.st = r.st ∧ ∀ t ∈ (rtF s own f r).2.tr, t ∈ r.tr ∨ (t.own = own ∧ t.acts.size ≤ s.size)
  | 0, r, _ => ⟨rfl, fun t ht => Or.inl ht⟩
  | f + 1, r, hk => by
    simp only [rtF] at hk ⊢
    split at hk
    · rename_i h47
      rw [if_pos h47]
      split at hk
      · rename_i hok
        rw [if_pos hok]
        have ih := rtF_trs s own f _ hk
        refine ⟨ih.1, fun t ht => ?_⟩
        rcases ih.2 t ht with h1 | h1
        · rcases List.mem_append.1 h1 with h2 | h2
          · exact Or.inl h2
          · simp only [List.mem_cons, List.not_mem_nil, or_false] at h2
            rw [h2]; exact Or.inr (rtP_own s own r.i hok)
        · exact Or.inr h1
      · cases hk
    · rename_i h47
      rw [if_neg h47]
      exact ⟨rfl, fun t ht => Or.inl ht⟩
theorem riF_shp (s : ByteArray) (g : Rn → Bool × Rn) (m L : Nat) (hgo : ∀ q, RdInv s q → m ≤ q.i → (g q).1 = true → GoesR s q (g q).2) (hg : ∀ q, RdInv s q → m ≤ q.i → L ≤ q.st.length → (g q).1 = true → Shp s q (g q).2 ∧ q.st.length < (g q).2.st.length) : ∀ (f n : Nat) (r : Rn), RdInv s r → m ≤ r.i → L ≤ r.st.length → (riF s g f n r).1 = true → Shp s r (riF s g f n r).2.2 ∧ ((riF s g f n r).2.1 = n ∨ r.st.length < (riF s g f n r).2.2.st.length)
  | 0, n, r, h, hm, hL, _ => ⟨Shp.refl _ _, Or.inl rfl⟩
  | f + 1, n, r, h, hm, hL, hk => by
    simp only [riF] at hk ⊢
    split at hk
    · rename_i hN
      rw [if_pos hN]
      split at hk
      · rename_i hok
        rw [if_pos hok]
        have hq := hgo r h hm hok
        have hs := hg r h hm hL hok
        have := hq.i
        have ih := riF_shp s g m L hgo hg f (n + 1) (g r).2 hq.inv (by omega) (by omega) hk
        exact ⟨hs.1.trans ih.1, Or.inr (Nat.lt_of_lt_of_le hs.2 ih.1.pre.length_le)⟩
      · cases hk
    · rename_i hN
      rw [if_neg hN]
      exact ⟨Shp.refl _ _, Or.inl rfl⟩
theorem riP_shp (s : ByteArray) (g : Rn → Bool × Rn) (fin : UInt8) (least : Nat) (hl : 1 ≤ least) (L : Nat) (r : Rn) (hi : RdInv s r) (hn : r.i < s.size) (hL : L ≤ r.st.length) (hgo : ∀ q, RdInv s q → r.i + 1 ≤ q.i → (g q).1 = true → GoesR s q (g q).2) (hg : ∀ q, RdInv s q → r.i + 1 ≤ q.i → L ≤ q.st.length → (g q).1 = true → Shp s q (g q).2 ∧ q.st.length < (g q).2.st.length) (hk : (riP s g fin least r).1 = true) :
    Shp s r (riP s g fin least r).2 ∧ r.st.length < (riP s g fin least r).2.st.length := by
  have h1 : RdInv s { r with i := r.i + 1 } := ⟨hn, by have := hi.2.1; simp only; omega, by have := hi.2.2; simp only; omega⟩
  unfold riP at hk ⊢
  split at hk
  · cases hk
  · rename_i hL2
    rw [if_neg hL2]
    split at hk
    · cases hk
    · rename_i hc
      rw [if_neg hc]
      have h9 : (riL s g 0 { r with i := r.i + 1 }).1 = true := by simpa using hL2
      have h2 := riF_shp s g (r.i + 1) L hgo hg (s.size - (r.i + 1)) 0 { r with i := r.i + 1 } h1 (Nat.le_refl _) hL h9
      have e : riL s g 0 { r with i := r.i + 1 } = riF s g (s.size - (r.i + 1)) 0 { r with i := r.i + 1 } := rfl
      rw [← e] at h2
      have h3 : ¬ (riL s g 0 { r with i := r.i + 1 }).2.1 < least := fun h => hc (Or.inl h)
      refine ⟨⟨h2.1.pre, h2.1.each, h2.1.trs⟩, ?_⟩
      rcases h2.2 with h4 | h4
      · omega
      · exact h4
end Go.Proofs.YtmolmbeeoecnfabDoor

/- Own work: the shape of what the program's reader has read: a state. -/
namespace Go.Proofs.YtmolmbeeoecnfabDoor
open Go.RowKit Go.BigFrame
set_option linter.unusedVariables false
set_option linter.unusedSimpArgs false

theorem modify_lastQ {α : Type} (f : α → α) : ∀ (l : List α) (x : α), (l ++ [x]).modify l.length f = l ++ [f x]
  | [], x => rfl
  | a :: l, x => by
    show a :: (l ++ [x]).modify l.length f = _
    rw [modify_lastQ f l x]; rfl
/-- The state that is read, ahead of its end. -/
structure X4 (s : ByteArray) (own : Nat) (outer : Int) (n : Nat) (x : StP) : Prop where
  ou : x.outer = outer
  en : x.enter.size ≤ s.size
  le : x.leave.size ≤ s.size
  nm : isN x.name = true
  rm : x.rem = false
  kd : x.kind ≠ 0 → own + 1 < n
theorem rsF_shp (s : ByteArray) : ∀ (f : Nat) (r : Rn) (outer : Int) (depth : Nat), RdInv s r → s.size - r.i < f → -1 ≤ outer → outer < (r.st.length : Int) → (rsF s f r outer depth).1 = true → Shp s r (rsF s f r outer depth).2 ∧ r.st.length < (rsF s f r outer depth).2.st.length
  | 0, r, _, _, h, hf, _, _, _ => by omega
  | f + 1, r, outer, depth, h, hf, ho1, ho2, hk => by
    simp only [rsF] at hk ⊢
    split at hk
    · cases hk
    · rename_i hN
      rw [if_neg hN]
      have hN' : isN (byte s r.i) = true := by simpa using hN
      have hin := isN_b s r.i hN'
      split at hk
      · cases hk
      · rename_i h43
        rw [if_neg h43]
        split at hk
        · cases hk
        · rename_i h45
          rw [if_neg h45]
          have b1 := abI_bd s 43 (r.i + 1) (by decide) hin
          have b2 := abI_bd s 45 (abI s 43 (r.i + 1)) (by decide) b1.2
          obtain ⟨a1, a2, a3⟩ := h
          have hr3 : RdInv s (rs3 s r.st.length (rs1 s r outer depth)) := by
            refine ⟨b2.2, ?_, ?_⟩
            · show (((r.st ++ [_]).modify _ _).modify _ _).length ≤ abI s 45 (abI s 43 (r.i + 1))
              simp only [List.length_modify, List.length_append, List.length_cons, List.length_nil]
              omega
            · show r.tr.length ≤ abI s 45 (abI s 43 (r.i + 1))
              omega
          have i3 : r.i + 1 ≤ (rs3 s r.st.length (rs1 s r outer depth)).i := by show r.i + 1 ≤ abI s 45 (abI s 43 (r.i + 1)); omega
          have t3 : (rs3 s r.st.length (rs1 s r outer depth)).tr = r.tr := rfl
          obtain ⟨x3, hx3, hX3⟩ : ∃ x3, (rs3 s r.st.length (rs1 s r outer depth)).st = r.st ++ [x3] ∧ x3.kind = 0 ∧ X4 s r.st.length outer 0 x3 := by
            refine ⟨⟨byte s r.i, r.i, depth, 0, outer, 0, abS s 43 (r.i + 1), abS s 45 (abI s 43 (r.i + 1)), false, false⟩, ?_, rfl, ⟨rfl, abS_le _ _ _, abS_le _ _ _, hN', rfl, fun h => absurd rfl h⟩⟩
            show ((r.st ++ [_]).modify r.st.length _).modify r.st.length _ = _
            rw [modify_lastQ, modify_lastQ]
            rfl
          generalize rs3 s r.st.length (rs1 s r outer depth) = q3 at *
          have hGo : ∀ q, RdInv s q → q3.i + 1 ≤ q.i → (rsF s f q (r.st.length : Nat) (depth + 1)).1 = true → GoesR s q (rsF s f q (r.st.length : Nat) (depth + 1)).2 := fun q hq hqi hqk => rsF_goes s f q _ _ hq (by omega) hqk
          have hG : ∀ q, RdInv s q → q3.i + 1 ≤ q.i → r.st.length + 1 ≤ q.st.length → (rsF s f q (r.st.length : Nat) (depth + 1)).1 = true → Shp s q (rsF s f q (r.st.length : Nat) (depth + 1)).2 ∧ q.st.length < (rsF s f q (r.st.length : Nat) (depth + 1)).2.st.length := fun q hq hqi hql hqk => rsF_shp s f q _ _ hq (by omega) (by omega) (by omega) hqk
          have h4 : (rs4 s (fun q => rsF s f q (r.st.length : Nat) (depth + 1)) r.st.length q3).1 = true → ∃ x4 i4, X4 s r.st.length outer (rs4 s (fun q => rsF s f q (r.st.length : Nat) (depth + 1)) r.st.length q3).2.st.length x4 ∧ Shp s ⟨i4, r.st ++ [x4], r.tr⟩ (rs4 s (fun q => rsF s f q (r.st.length : Nat) (depth + 1)) r.st.length q3).2 := by
            have hset : ∀ kk, (setKP q3 r.st.length kk).st = r.st ++ [{ x3 with kind := kk }] := by
              intro kk
              show q3.st.modify _ _ = _
              rw [hx3, modify_lastQ]
            have hone : ∀ fin kk least, (hl : 1 ≤ least) → q3.i < s.size → (riP s (fun q => rsF s f q (r.st.length : Nat) (depth + 1)) fin least (setKP q3 r.st.length kk)).1 = true → ∃ x4 i4, X4 s r.st.length outer (riP s (fun q => rsF s f q (r.st.length : Nat) (depth + 1)) fin least (setKP q3 r.st.length kk)).2.st.length x4 ∧ Shp s ⟨i4, r.st ++ [x4], r.tr⟩ (riP s (fun q => rsF s f q (r.st.length : Nat) (depth + 1)) fin least (setKP q3 r.st.length kk)).2 := by
              intro fin kk least hl hi hk4
              have hlen : (setKP q3 r.st.length kk).st.length = r.st.length + 1 := by rw [hset]; simp
              have hh := riP_shp s _ fin least hl (r.st.length + 1) (setKP q3 r.st.length kk) ⟨hr3.1, by simp [setKP]; exact hr3.2.1, hr3.2.2⟩ hi (by omega) hGo hG hk4
              refine ⟨{ x3 with kind := kk }, (setKP q3 r.st.length kk).i, ⟨hX3.2.ou, hX3.2.en, hX3.2.le, hX3.2.nm, hX3.2.rm, fun _ => by have := hh.2; omega⟩, ?_⟩
              have e : setKP q3 r.st.length kk = ⟨(setKP q3 r.st.length kk).i, r.st ++ [{ x3 with kind := kk }], r.tr⟩ := by
                have e1 := hset kk
                have e2 : (setKP q3 r.st.length kk).tr = r.tr := t3
                rw [← e1, ← e2]
              have h5 := hh.1
              rw [e] at h5 ⊢
              exact h5
            unfold rs4
            intro hk4
            split
            · rename_i hc
              rw [if_pos hc] at hk4
              exact hone 41 1 1 (by decide) (sg_in s 40 q3.i (by decide) hc) hk4
            · rename_i hc
              rw [if_neg hc] at hk4
              split
              · rename_i hc2
                rw [if_pos hc2] at hk4
                exact hone 93 2 2 (by decide) (sg_in s 91 q3.i (by decide) hc2) hk4
              · refine ⟨x3, q3.i, ⟨hX3.2.ou, hX3.2.en, hX3.2.le, hX3.2.nm, hX3.2.rm, fun h => absurd hX3.1 h⟩, ?_⟩
                have e : q3 = ⟨q3.i, r.st ++ [x3], r.tr⟩ := by rw [← hx3, ← t3]
                rw [← e]
                exact Shp.refl s q3
          generalize rs4 s (fun q => rsF s f q (r.st.length : Nat) (depth + 1)) r.st.length q3 = q4 at *
          unfold rs5 at hk ⊢
          split at hk
          · rename_i e; rw [e] at hk; cases hk
          · rename_i e
            rw [if_neg e]
            obtain ⟨x4, i4, hX4, hS4⟩ := h4 (by simpa using e)
            have hz := rtF_trs s r.st.length _ _ hk
            have hst : (rtL s r.st.length (setEP q4.2 r.st.length q4.2.st.length)).2.st = q4.2.st.modify r.st.length (fun x => { x with end_ := q4.2.st.length }) := hz.1
            have htr := hz.2
            have hpl := hS4.pre.length_le
            simp only [List.length_append, List.length_cons, List.length_nil] at hpl
            have hlen : (rtL s r.st.length (setEP q4.2 r.st.length q4.2.st.length)).2.st.length = q4.2.st.length := by rw [hst, List.length_modify]
            have h0 : q4.2.st[r.st.length]? = some x4 := by rw [pre_get hS4.pre (by simp)]; simp
            refine ⟨⟨?_, ?_, ?_⟩, by omega⟩
            · rw [hst]
              exact prefix_modify _ _ _ _ ((List.prefix_append _ _).trans hS4.pre) (Nat.le_refl _)
            · intro k x hkk hx
              rw [hlen]
              rw [hst, List.getElem?_modify] at hx
              by_cases hke : r.st.length = k
              · subst hke
                rw [h0] at hx
                simp only [if_pos, Option.map_eq_map, Option.map_some, Option.some.injEq] at hx
                subst hx
                exact ⟨by show _ < q4.2.st.length; omega, Nat.le_refl _, by show -1 ≤ x4.outer; rw [hX4.ou]; exact ho1, by show x4.outer < _; rw [hX4.ou]; exact ho2, hX4.kd, hX4.en, hX4.le, hX4.nm, hX4.rm⟩
              · have hx2 : q4.2.st[k]? = some x := by
                  cases h6 : q4.2.st[k]? with
                  | none => rw [h6] at hx; simp at hx
                  | some y => rw [h6] at hx; simp [hke] at hx; rw [hx]
                exact hS4.each k x (by simp; omega) hx2
            · intro t ht
              rcases htr t ht with h7 | h7
              · have h8 : t ∈ q4.2.tr := h7
                rcases hS4.trs t h8 with h9 | h9
                · exact Or.inl h9
                · exact Or.inr ⟨by rw [hlen]; exact h9.1, h9.2⟩
              · exact Or.inr ⟨by rw [hlen, h7.1]; omega, h7.2⟩
end Go.Proofs.YtmolmbeeoecnfabDoor

/- Own work: the plan of a chart that is right keeps to what the player asks. -/
namespace Go.Proofs.YtmolmbeeoecnfabDoor
open Go.RowKit Go.BigFrame
set_option linter.unusedVariables false
set_option linter.unusedSimpArgs false

theorem pigeon : ∀ (n : Nat) (l : List Nat), l.Nodup → (∀ x ∈ l, x < n) → l.length ≤ n
  | 0, l, _, h => by
    cases l with
    | nil => exact Nat.le_refl _
    | cons a r => have := h a (by simp); omega
  | n + 1, l, hd, h => by
    have ih := pigeon n (l.erase n) (hd.erase n) (fun x hx => by
      have h1 := (hd.mem_erase_iff).1 hx
      have h2 := h x h1.2
      have h3 := h1.1
      omega)
    by_cases hm : n ∈ l
    · rw [List.length_erase_of_mem hm] at ih; omega
    · rw [List.erase_of_not_mem hm] at ih; omega
theorem idxP_le {st : List StP} {i : Nat} {x : StP} (h : st[i]? = some x) (c : UInt8) (hc : x.name = c) : idxP st c ≤ (i : Int) := by
  have hi := (List.getElem?_eq_some_iff.1 h).1
  have hp : isNmP st c i = true := by simp [isNmP, h, hc]
  unfold idxP
  rcases firstB_spec (isNmP st c) st.length with ⟨h1, h2⟩ | ⟨k, h1, h2, h3, h4⟩
  · have := h2 i hi; rw [hp] at this; cases this
  · rw [h1]
    show (k : Int) ≤ i
    by_cases hk : i < k
    · have := h4 i hk; rw [hp] at this; cases this
    · omega
theorem ftw_all {st : List StP} (h : ftw st = -1) {k : Nat} {x : StP} (hx : st[k]? = some x) : (k : Int) ≤ idxP st x.name := by
  have hk := (List.getElem?_eq_some_iff.1 hx).1
  unfold ftw at h
  rcases firstB_spec (twP st) st.length with ⟨h1, h2⟩ | ⟨j, h1, _⟩
  · have h3 := h2 k hk
    simp only [twP, hx, decide_eq_false_iff_not] at h3
    omega
  · rw [h1] at h; simp only at h; omega
theorem names_26 {st : List StP} (h : ftw st = -1) (hn : ∀ x ∈ st, isN x.name = true) : st.length ≤ 26 := by
  have hb : ∀ x ∈ st, 65 ≤ x.name.toNat ∧ x.name.toNat ≤ 90 := by
    intro x hx
    have h1 := hn x hx
    simp only [isN, Bool.and_eq_true, decide_eq_true_eq] at h1
    exact ⟨UInt8.le_iff_toNat_le.1 h1.1, UInt8.le_iff_toNat_le.1 h1.2⟩
  have hp := pigeon 26 (st.map fun x => x.name.toNat - 65) ?_ ?_
  · simpa using hp
  · rw [List.Nodup, List.pairwise_iff_getElem]
    intro i j hi hj hij e
    simp only [List.getElem_map] at e
    simp only [List.length_map] at hi hj
    have b1 := hb _ (List.getElem_mem hi)
    have b2 := hb _ (List.getElem_mem hj)
    have en : st[i].name = st[j].name := UInt8.toNat_inj.1 (by omega)
    have h1 := ftw_all h (List.getElem?_eq_getElem hj)
    have h2 := idxP_le (List.getElem?_eq_getElem hi) st[j].name en
    omega
  · intro x hx
    obtain ⟨y, hy, rfl⟩ := List.mem_map.1 hx
    have := hb y hy
    omega

/-- The marks change nothing else. -/
structure SmX (x y : StP) : Prop where
  e : x.end_ = y.end_
  o : x.outer = y.outer
  k : x.kind = y.kind
  en : x.enter = y.enter
  le : x.leave = y.leave
  n : x.name = y.name
  r : x.rem = true → y.rem = true ∨ y.kind = 1
def Sm (st0 st : List StP) : Prop := st.length = st0.length ∧ ∀ (k : Nat) (x : StP), st[k]? = some x → ∃ y, st0[k]? = some y ∧ SmX x y
theorem Sm.refl (st : List StP) : Sm st st := ⟨rfl, fun k x h => ⟨x, h, ⟨rfl, rfl, rfl, rfl, rfl, rfl, Or.inl⟩⟩⟩
theorem Sm.modify {st0 st : List StP} (h : Sm st0 st) (i : Nat) (g : StP → StP) (hg : ∀ x y, st0[i]? = some y → SmX x y → SmX (g x) y) : Sm st0 (st.modify i g) := by
  refine ⟨by rw [List.length_modify]; exact h.1, fun k x hx => ?_⟩
  rw [List.getElem?_modify] at hx
  cases h6 : st[k]? with
  | none => rw [h6] at hx; simp at hx
  | some z =>
    obtain ⟨y, hy, hs⟩ := h.2 k z h6
    refine ⟨y, hy, ?_⟩
    rw [h6] at hx
    by_cases hik : i = k
    · simp only [hik, if_pos, Option.map_eq_map, Option.map_some, Option.some.injEq] at hx
      rw [← hx]
      exact hg z y (by rw [hik]; exact hy) hs
    · simp [hik] at hx
      rw [← hx]; exact hs
theorem Sm.mark1 {st0 st : List StP} (h : Sm st0 st) (t : TrQ) (hb : badM st0 t = false) : Sm st0 (mark1 st t) := by
  unfold Proofs.YtmolmbeeoecnfabDoor.mark1
  split
  · exact h
  · rename_i hm
    have hk : kdP st0 t.ts = 1 := by
      simp only [badM, Bool.and_eq_false_iff, Bool.not_eq_false', beq_iff_eq] at hb
      rcases hb with hb | hb
      · exact absurd hb hm
      · exact hb
    have hR : ∀ x y, st0[t.ts.toNat]? = some y → SmX x y → SmX (setRem x) y := by
      intro x y hy hs
      refine ⟨hs.e, hs.o, hs.k, hs.en, hs.le, hs.n, fun _ => Or.inr ?_⟩
      simp only [kdP, hy] at hk
      exact hk
    have hW : ∀ x y, st0[t.ts.toNat]? = some y → SmX x y → SmX (setWh x) y := fun x y _ hs => ⟨hs.e, hs.o, hs.k, hs.en, hs.le, hs.n, hs.r⟩
    split
    · exact (h.modify _ _ hR).modify _ _ hW
    · exact h.modify _ _ hR
theorem Sm.fold {st0 : List StP} : ∀ (tr : List TrQ) (st : List StP), Sm st0 st → (∀ t ∈ tr, badM st0 t = false) → Sm st0 (tr.foldl Proofs.YtmolmbeeoecnfabDoor.mark1 st)
  | [], st, h, _ => h
  | t :: tr, st, h, hb => Sm.fold tr _ (h.mark1 t (hb t (by simp))) (fun u hu => hb u (by simp [hu]))

theorem unE_ok {s : ByteArray} (h : (unE s).1 = 0) : s.size ≤ 160 ∧ rcK s = true ∧ ftw (rcR s).2.st = -1 ∧ rsv (rcR s).2.st (rcR s).2.tr = -1 ∧ mrk (rcR s).2.st ((rcR s).2.tr.map (resQ (rcR s).2.st)) = -1 := by
  unfold unE at h
  split at h
  · cases h
  · split at h
    · cases h
    · split at h
      · cases h
      · split at h
        · cases h
        · split at h
          · cases h
          · split at h
            · cases h
            · rename_i h1 h2 h3 h4 h5 h6
              exact ⟨by omega, by simpa using h2, by omega, by omega, by omega⟩
theorem plan_ok (s : ByteArray) (h : (unE s).1 = 0) : PlOk (unSt s) (unTr s) := by
  obtain ⟨h160, hK, hw, hv, hm⟩ := unE_ok h
  have hok : (rcR s).1 = true := by
    simp only [rcK, Bool.and_eq_true] at hK
    exact hK.1
  have hI0 : RdInv s R0 := ⟨Nat.zero_le _, Nat.le_refl _, Nat.le_refl _⟩
  have hsh := rsF_shp s (s.size + 1) R0 (-1) 1 hI0 (by show s.size - 0 < _; omega) (Int.le_refl _) (by show (-1 : Int) < ((0 : Nat) : Int); omega) hok
  have hgo := rsF_goes s (s.size + 1) R0 (-1) 1 hI0 (by show s.size - 0 < _; omega) hok
  have hcd : CdOk s (rcR s).2 := CdOk.rsF _ _ _ _ (fun t ht => by simp [R0] at ht)
  have hinv : RdInv s (rcR s).2 := hgo.inv
  have hShp : Shp s R0 (rcR s).2 := hsh.1
  have hpos : 0 < (rcR s).2.st.length := hsh.2
  unfold unSt unTr
  generalize (rcR s).2 = q at *
  have hE : ∀ (k : Nat) (x : StP), q.st[k]? = some x → StK s q.st.length k x := fun k x hx => hShp.each k x (Nat.zero_le _) hx
  have h26 : q.st.length ≤ 26 := names_26 hw (fun x hx => by
    obtain ⟨k, hk⟩ := List.mem_iff_getElem?.1 hx
    exact (hE k x hk).nm)
  have hbm : ∀ t ∈ q.tr.map (resQ q.st), badM q.st t = false := by
    intro t ht
    unfold mrk at hm
    cases hf : (q.tr.map (resQ q.st)).find? (badM q.st) with
    | some x => rw [hf] at hm; simp only at hm; omega
    | none => simpa using List.find?_eq_none.1 hf t ht
  have hS : Sm q.st ((q.tr.map (resQ q.st)).foldl mark1 q.st) := Sm.fold _ _ (Sm.refl _) hbm
  have hgood : ∀ t ∈ q.tr, ∀ x ∈ refsQ t, 0 ≤ idxP q.st x.1 := by
    intro t ht x hx
    unfold rsv at hv
    cases hf : (q.tr.flatMap refsQ).find? (badR q.st) with
    | some y => rw [hf] at hv; simp only at hv; omega
    | none =>
      have h1 := List.find?_eq_none.1 hf x (List.mem_flatMap.2 ⟨t, ht, hx⟩)
      simp [badR] at h1
      exact h1
  generalize (q.tr.map (resQ q.st)).foldl mark1 q.st = st at *
  have hl := hS.1
  refine ⟨⟨by omega, ?_, ?_, ?_⟩, ?_, ?_, by omega, ?_, ?_⟩
  · intro k x hx
    obtain ⟨y, hy, hs⟩ := hS.2 k x hx
    have := hE k y hy
    rw [hs.e, hl]; exact ⟨this.e1, this.e2⟩
  · intro k x hx
    obtain ⟨y, hy, hs⟩ := hS.2 k x hx
    have := hE k y hy
    rw [hs.o]; exact ⟨this.o1, this.o2⟩
  · intro k x hx hkd
    obtain ⟨y, hy, hs⟩ := hS.2 k x hx
    have := hE k y hy
    rw [hs.e]; exact this.kd (by rw [← hs.k]; exact hkd)
  · intro x hx
    obtain ⟨k, hk⟩ := List.mem_iff_getElem?.1 hx
    obtain ⟨y, hy, hs⟩ := hS.2 k x hk
    have h1 := (hE k y hy).en
    have h2 := (hE k y hy).le
    rw [hs.en, hs.le]; omega
  · intro k x hx hr
    obtain ⟨y, hy, hs⟩ := hS.2 k x hx
    rw [hs.k]
    rcases hs.r hr with h1 | h1
    · rw [(hE k y hy).rm] at h1; cases h1
    · omega
  · intro t ht
    obtain ⟨t0, ht0, rfl⟩ := List.mem_map.1 ht
    have h1 : t0.own < q.st.length ∧ t0.acts.size ≤ s.size := by
      rcases hShp.trs t0 ht0 with h1 | h1
      · simp [R0] at h1
      · exact h1
    have h2 := idxP_bd q.st t0.tn
    have h3 := hgood t0 ht0 (t0.tn, t0.tp) (List.mem_append_right _ (by simp))
    have h4 := hcd t0 ht0
    refine ⟨⟨by rw [hl]; exact h1.1, h3, by rw [hl]; exact h2.2⟩, ?_, ?_, by show t0.acts.size ≤ 160; omega⟩
    · intro c hc
      obtain ⟨c0, hc0, rfl⟩ := List.mem_map.1 hc
      have h5 := hgood t0 ht0 (c0.name, c0.place) (List.mem_append_left _ (List.mem_map.2 ⟨c0, hc0, rfl⟩))
      have h6 := idxP_bd q.st c0.name
      exact ⟨h5, by show idxP q.st c0.name < 26; omega⟩
    · show (t0.conds.map (resC q.st)).length ≤ _
      rw [List.length_map]; omega
  · rw [List.length_map]
    have := hinv.2.2
    have := hinv.1
    omega
end Go.Proofs.YtmolmbeeoecnfabDoor

/- Own work: plain facts of the player: the transitions' places do not matter; what is put out stays; the outermost state is active. -/
namespace Go.Proofs.YtmolmbeeoecnfabDoor
open Go.RowKit Go.BigFrame
set_option linter.unusedVariables false
set_option linter.unusedSimpArgs false

section
variable {th th' : List TrH} (h : th.map TrH.q = th'.map TrH.q)
include h
theorem qq_len : th.length = th'.length := by simpa using congrArg List.length h
theorem qq (k : Nat) : (th[k]? = none ∧ th'[k]? = none) ∨ ∃ t t', th[k]? = some t ∧ th'[k]? = some t' ∧ t.q = t'.q := by
  have h1 : (th.map TrH.q)[k]? = (th'.map TrH.q)[k]? := by rw [h]
  rw [List.getElem?_map, List.getElem?_map] at h1
  cases h2 : th[k]? with
  | none => cases h3 : th'[k]? with
    | none => exact Or.inl ⟨rfl, rfl⟩
    | some t => rw [h2, h3] at h1; cases h1
  | some t => cases h3 : th'[k]? with
    | none => rw [h2, h3] at h1; cases h1
    | some t' => rw [h2, h3] at h1; exact Or.inr ⟨t, t', rfl, rfl, by simpa using h1⟩
theorem posB_congr (act : List Bool) (s : Nat) (ev : UInt8) : posB th act s ev = posB th' act s ev := by
  funext k
  unfold posB
  rcases qq h k with ⟨h1, h2⟩ | ⟨t, t', h1, h2, h3⟩
  · rw [h1, h2]
  · rw [h1, h2]; simp only; rw [h3]
theorem fpo_congr (act : List Bool) (s : Nat) (ev : UInt8) : fpo th act s ev = fpo th' act s ev := by
  unfold fpo; rw [posB_congr h, qq_len h]
theorem cfF_congr (st : List StP) (act : List Bool) (ev : UInt8) : ∀ (f : Nat) (s : Int), cfF st th act ev f s = cfF st th' act ev f s
  | 0, s => rfl
  | f + 1, s => by unfold cfF; rw [fpo_congr h, cfF_congr st act ev f]
theorem cl1_congr (st : List StP) (act : List Bool) (ev : UInt8) : cl1 st th act ev = cl1 st th' act ev := by
  funext acc s
  unfold cl1 cfO; rw [cfF_congr h]
theorem clL_congr (st : List StP) (act : List Bool) (ev : UInt8) : clL st th act ev = clL st th' act ev := by
  unfold clL clK; rw [cl1_congr h]
theorem wc1_congr (st : List StP) (act : List Bool) : wc1 st th act = wc1 st th' act := by
  funext z k
  unfold wc1
  rcases qq h k with ⟨h1, h2⟩ | ⟨t, t', h1, h2, h3⟩
  · rw [h1, h2]
  · rw [h1, h2]; simp only; rw [h3]
theorem tkn_congr (st : List StP) (act : List Bool) (ev : UInt8) : tkn st th act ev = tkn st th' act ev := by
  unfold tkn wcL; rw [wc1_congr h, clL_congr h]
theorem tk1_congr (st : List StP) : tk1 st th = tk1 st th' := by
  funext p n
  unfold tk1
  rcases qq h n with ⟨h1, h2⟩ | ⟨t, t', h1, h2, h3⟩
  · rw [h1, h2]
  · rw [h1, h2]; simp only; rw [h3]
theorem spF_congr (st : List StP) (ev : UInt8) (p : Py) : spF st th ev p = spF st th' ev p := by
  unfold spF; rw [tkn_congr h, tk1_congr h]
theorem plK_congr (st : List StP) (es : ByteArray) : ∀ k, plK st th es k = plK st th' es k
  | 0 => rfl
  | k + 1 => by unfold plK evStep; rw [spF_congr h, plK_congr st es k]
end

/-! What is put out stays. -/
theorem lvF_pre (st : List StP) (left : List Bool) : ∀ (k : Nat) (p : Py), p.out <+: (lvF st left k p).out
  | 0, p => List.prefix_refl _
  | k + 1, p => by
    rw [lvF]
    split
    · have h1 := lvF_pre st left k { p with act := p.act.set k false, out := p.out ++ bls (leaveAt st k) }
      exact List.IsPrefix.trans (List.prefix_append p.out (bls (leaveAt st k))) h1
    · exact lvF_pre st left k p
theorem itF_pre (g : Nat → Py → Py) (hg : ∀ i p, p.out <+: (g i p).out) : ∀ (n i : Nat) (p : Py), p.out <+: (itF g n i p).out
  | 0, i, p => List.prefix_refl _
  | n + 1, i, p => (hg i p).trans (itF_pre g hg n (i + 1) (g i p))
theorem enF_pre (st : List StP) : ∀ (f s : Nat) (a : Am) (p : Py), p.out <+: (enF st f s a p).out
  | 0, s, a, p => List.prefix_refl _
  | f + 1, s, a, p => by
    rw [enF]
    split
    · exact List.prefix_refl _
    · rename_i x hx
      have h1 : p.out <+: ({ p with act := p.act.set s true, out := p.out ++ bls x.enter } : Py).out := List.prefix_append _ _
      split
      · refine h1.trans (itF_pre _ ?_ _ _ _)
        intro i q
        split
        · exact enF_pre st f i a q
        · exact List.prefix_refl _
      · split
        · exact h1.trans (enF_pre st f _ _ _)
        · exact h1
theorem tkF_pre (st : List StP) (t : TrQ) (p : Py) : p.out <+: (tkF st t p).out := by
  unfold tkF
  refine List.IsPrefix.trans ?_ (enF_pre st 26 _ _ _)
  refine List.IsPrefix.trans ?_ (List.prefix_append _ _)
  have h := lvF_pre st (lefB st p.act t) st.length (rmF st (lefB st p.act t) st.length p)
  rw [rmF_out] at h
  exact h
theorem fold_pre (st : List StP) (th : List TrH) : ∀ (ns : List Nat) (p : Py), p.out <+: (ns.foldl (tk1 st th) p).out
  | [], p => List.prefix_refl _
  | n :: ns, p => by
    refine List.IsPrefix.trans ?_ (fold_pre st th ns _)
    unfold tk1; split
    · exact tkF_pre _ _ _
    · exact List.prefix_refl _
theorem plK_pre1 (st : List StP) (th : List TrH) (es : ByteArray) (k : Nat) : (plK st th es k).out ++ [46] <+: (plK st th es (k + 1)).out := fold_pre st th (tkn st th (plK st th es k).act (byte es k)) { plK st th es k with out := (plK st th es k).out ++ [46] }
theorem plK_pre (st : List StP) (th : List TrH) (es : ByteArray) (k : Nat) : ∀ j, (plK st th es k).out <+: (plK st th es (k + j)).out
  | 0 => List.prefix_refl _
  | j + 1 => (plK_pre st th es k j).trans ((List.prefix_append _ _).trans (plK_pre1 st th es (k + j)))
/-- What comes behind does not matter. -/
theorem plK_app (st : List StP) (th : List TrH) (a b : ByteArray) : ∀ k, k ≤ a.size → plK st th (a ++ b) k = plK st th a k
  | 0, _ => rfl
  | k + 1, h => by
    have e : byte (a ++ b) k = byte a k := by
      rw [byte_in _ _ (by rw [ByteArray.size_append]; omega), byte_in _ _ (by omega), ByteArray.getElem_append_left (by omega)]
    unfold plK; rw [plK_app st th a b k (by omega), e]

/-! The outermost state is active. -/
def Rt (p : Py) : Prop := mem p.act 0 = true
theorem mem_set (l : List Bool) (k : Nat) (v : Bool) (i : Nat) : mem (l.set k v) i = if k = i ∧ i < l.length then v else mem l i := by
  unfold mem
  rw [List.getElem?_set]
  by_cases h : k = i
  · by_cases hi : i < l.length
    · simp [h, hi]
    · simp [h, hi]
  · simp [h]
theorem itF_rt (g : Nat → Py → Py) (hg : ∀ i p, Rt p → Rt (g i p)) : ∀ (n i : Nat) (p : Py), Rt p → Rt (itF g n i p)
  | 0, i, p, h => h
  | n + 1, i, p, h => itF_rt g hg n (i + 1) (g i p) (hg i p h)
theorem Rt.set {p : Py} (h : Rt p) (s : Nat) (o : List UInt8) : Rt { p with act := p.act.set s true, out := o } := by
  show mem (p.act.set s true) 0 = true
  rw [mem_set]; split
  · rfl
  · exact h
theorem enF_rt (st : List StP) : ∀ (f s : Nat) (a : Am) (p : Py), Rt p → Rt (enF st f s a p)
  | 0, s, a, p, h => h
  | f + 1, s, a, p, h => by
    rw [enF]
    split
    · exact h
    · rename_i x hx
      have h1 := h.set s (p.out ++ bls x.enter)
      split
      · refine itF_rt _ ?_ _ _ _ h1
        intro i q hq
        split
        · exact enF_rt st f i a q hq
        · exact hq
      · split
        · exact enF_rt st f _ _ _ h1
        · exact h1
theorem enF_rt0 (st : List StP) (f : Nat) (a : Am) (p : Py) (hs : 0 < st.length) (hl : p.act.length = 26) : Rt (enF st (f + 1) 0 a p) := by
  have h1 : ∀ o, Rt { p with act := p.act.set 0 true, out := o } := by
    intro o
    show mem (p.act.set 0 true) 0 = true
    rw [mem_set, if_pos ⟨rfl, by omega⟩]
  rw [enF]
  split
  · rename_i hx
    rw [List.getElem?_eq_getElem hs] at hx; cases hx
  · rename_i x hx
    split
    · refine itF_rt _ ?_ _ _ _ (h1 _)
      intro i q hq
      split
      · exact enF_rt st f i a q hq
      · exact hq
    · split
      · exact enF_rt st f _ _ _ (h1 _)
      · exact h1 _
theorem rmF_act (st : List StP) (left : List Bool) : ∀ (k : Nat) (p : Py), (rmF st left k p).act = p.act
  | 0, p => rfl
  | k + 1, p => by
    rw [rmF, rmS]
    split
    · split
      · exact rmF_act st left k p
      · exact rmF_act st left k p
    · exact rmF_act st left k p
theorem lvF_len (st : List StP) (left : List Bool) : ∀ (k : Nat) (p : Py), (lvF st left k p).act.length = p.act.length
  | 0, p => rfl
  | k + 1, p => by
    rw [lvF]
    split
    · rw [lvF_len st left k]; simp
    · exact lvF_len st left k p
theorem lvF_rt (st : List StP) (left : List Bool) (h0 : mem left 0 = false) : ∀ (k : Nat) (p : Py), Rt p → Rt (lvF st left k p)
  | 0, p, h => h
  | k + 1, p, h => by
    rw [lvF]
    split
    · rename_i hk
      refine lvF_rt st left h0 k _ ?_
      show mem (p.act.set k false) 0 = true
      rw [mem_set, if_neg (fun e => by rw [e.1, h0] at hk; cases hk)]
      exact h
    · exact lvF_rt st left h0 k p h
theorem mem_belK (act : List Bool) (o k : Nat) : mem (belK act o k) 0 = false := by
  simp [mem, belK]
theorem tkF_rt (st : List StP) (t : TrQ) (p : Py) (hs : 0 < st.length) (hl : p.act.length = 26) (h : Rt p) : Rt (tkF st t p) := by
  unfold tkF
  by_cases hc : scOf st t = -1
  · have e : fiOf st t = 0 := by rw [fiOf, if_pos hc]
    rw [e]
    refine enF_rt0 st 25 _ _ hs ?_
    show (lvF st (lefB st p.act t) st.length (rmF st (lefB st p.act t) st.length p)).act.length = 26
    rw [lvF_len, rmF_act]; exact hl
  · refine enF_rt st 26 _ _ _ ?_
    have e : lefB st p.act t = actB st p.act (scOf st t).toNat := by rw [lefB, if_neg hc]
    show Rt (lvF st (lefB st p.act t) st.length (rmF st (lefB st p.act t) st.length p))
    refine lvF_rt st _ (by rw [e]; exact mem_belK _ _ _) _ _ ?_
    show mem (rmF st (lefB st p.act t) st.length p).act 0 = true
    rw [rmF_act]; exact h
end Go.Proofs.YtmolmbeeoecnfabDoor

/- Own work: actions hold no point; how many points are put out; the status is never empty. -/
namespace Go.Proofs.YtmolmbeeoecnfabDoor
open Go.RowKit Go.BigFrame
set_option linter.unusedVariables false
set_option linter.unusedSimpArgs false

def NoP (a : ByteArray) : Prop := ∀ c ∈ bls a, c ≠ 46
theorem dend_dig (s : ByteArray) (i : Nat) : ∀ j, i ≤ j → j < dend s i → isD (byte s j) = true := by
  unfold dend
  generalize s.size - i = n
  induction n generalizing i with
  | zero => intro j h1 h2; simp only [dendF] at h2; omega
  | succ n ih =>
    intro j h1 h2
    simp only [dendF] at h2
    split at h2
    · rename_i h
      by_cases e : j = i
      · rw [e]; exact h
      · exact ih (i + 1) j (by omega) h2
    · omega
theorem cut_nop (s : ByteArray) (i : Nat) : NoP (cut s i (dend s i)) := by
  intro c hc e
  have hc' : c ∈ (s.data.toList.drop i).take (dend s i - i) := by simpa [bls, cut] using hc
  obtain ⟨k, hk⟩ := List.mem_iff_getElem?.1 hc'
  rw [List.getElem?_take] at hk
  split at hk
  · rename_i hlt
    rw [List.getElem?_drop] at hk
    obtain ⟨h1, h2⟩ := List.getElem?_eq_some_iff.1 hk
    have hsz : i + k < s.size := h1
    have h3 := dend_dig s i (i + k) (by omega) (by omega)
    rw [byte_in s (i + k) hsz] at h3
    have h4 : s[i + k] = c := by rw [← h2]; rfl
    rw [h4, e] at h3
    revert h3; decide
  · cases hk
theorem nil_nop : NoP ⟨#[]⟩ := by intro c hc; simp [bls] at hc
theorem abS_nop (s : ByteArray) (sg : UInt8) (i : Nat) : NoP (abS s sg i) := by
  unfold abS; split
  · exact cut_nop _ _
  · exact nil_nop
theorem rtP_nop (s : ByteArray) (own i : Nat) : NoP (rtP s own i).2.2.acts := by
  unfold rtP
  simp only
  split
  · exact nil_nop
  · split
    · exact nil_nop
    · split
      · exact nil_nop
      · split
        · exact nil_nop
        · exact cut_nop _ _
def DgS (st : List StP) : Prop := ∀ x ∈ st, NoP x.enter ∧ NoP x.leave
def DgOk (r : Rn) : Prop := DgS r.st ∧ ∀ t ∈ r.tr, NoP t.acts
theorem DgS.modify {st : List StP} (h : DgS st) (i : Nat) (g : StP → StP) (hg : ∀ x, NoP x.enter ∧ NoP x.leave → NoP (g x).enter ∧ NoP (g x).leave) : DgS (st.modify i g) := by
  intro x hx
  obtain ⟨k, hk⟩ := List.mem_iff_getElem?.1 hx
  rw [List.getElem?_modify] at hk
  cases h6 : st[k]? with
  | none => rw [h6] at hk; simp at hk
  | some z =>
    have hz := h z (List.mem_of_getElem? h6)
    rw [h6] at hk
    by_cases hik : i = k
    · simp only [hik, if_pos, Option.map_eq_map, Option.map_some, Option.some.injEq] at hk
      rw [← hk]; exact hg z hz
    · simp [hik] at hk
      rw [← hk]; exact hz
theorem DgOk.rtF {s : ByteArray} {own : Nat} : ∀ (f : Nat) (r : Rn), DgOk r → DgOk (rtF s own f r).2
  | 0, r, h => h
  | f + 1, r, h => by
    have hp : DgOk { r with i := (rtP s own r.i).2.1, tr := r.tr ++ [(rtP s own r.i).2.2] } := by
      refine ⟨h.1, fun t ht => ?_⟩
      rcases List.mem_append.1 ht with ht | ht
      · exact h.2 t ht
      · simp only [List.mem_cons, List.not_mem_nil, or_false] at ht
        rw [ht]; exact rtP_nop s own r.i
    simp only [Proofs.YtmolmbeeoecnfabDoor.rtF]
    split
    · split
      · exact DgOk.rtF f _ hp
      · exact hp
    · exact h
theorem DgOk.riF {s : ByteArray} {g : Rn → Bool × Rn} (hg : ∀ q, DgOk q → DgOk (g q).2) : ∀ (f n : Nat) (r : Rn), DgOk r → DgOk (riF s g f n r).2.2
  | 0, n, r, h => h
  | f + 1, n, r, h => by
    simp only [Proofs.YtmolmbeeoecnfabDoor.riF]
    split
    · split
      · exact DgOk.riF hg f _ _ (hg r h)
      · exact hg r h
    · exact h
theorem DgOk.riP {s : ByteArray} {g : Rn → Bool × Rn} (hg : ∀ q, DgOk q → DgOk (g q).2) (fin : UInt8) (least : Nat) (r : Rn) (h : DgOk r) : DgOk (riP s g fin least r).2 := by
  have h1 : DgOk (riL s g 0 { r with i := r.i + 1 }).2.2 := DgOk.riF hg _ 0 { r with i := r.i + 1 } h
  unfold Proofs.YtmolmbeeoecnfabDoor.riP
  split
  · exact h1
  · split
    · exact h1
    · exact h1
theorem DgOk.rsF {s : ByteArray} : ∀ (f : Nat) (r : Rn) (outer : Int) (depth : Nat), DgOk r → DgOk (rsF s f r outer depth).2
  | 0, r, _, _, h => h
  | f + 1, r, outer, depth, h => by
    have hp1 : DgOk (rs1 s r outer depth) := by
      refine ⟨fun x hx => ?_, h.2⟩
      rcases List.mem_append.1 hx with hx | hx
      · exact h.1 x hx
      · simp only [List.mem_cons, List.not_mem_nil, or_false] at hx
        rw [hx]; exact ⟨nil_nop, nil_nop⟩
    simp only [Proofs.YtmolmbeeoecnfabDoor.rsF]
    split
    · exact h
    · split
      · exact hp1
      · split
        · exact hp1
        · have h3 : DgOk (rs3 s r.st.length (rs1 s r outer depth)) :=
            ⟨(hp1.1.modify r.st.length (fun x => { x with enter := abS s 43 (r.i + 1) }) (fun x hx => ⟨abS_nop _ _ _, hx.2⟩)).modify r.st.length (fun x => { x with leave := abS s 45 (abI s 43 (r.i + 1)) }) (fun x hx => ⟨hx.1, abS_nop _ _ _⟩), hp1.2⟩
          have hk : ∀ kk, DgOk (setKP (rs3 s r.st.length (rs1 s r outer depth)) r.st.length kk) := fun kk => ⟨h3.1.modify r.st.length (fun x => { x with kind := kk }) (fun x hx => hx), h3.2⟩
          have h4 : DgOk (rs4 s (fun q => Proofs.YtmolmbeeoecnfabDoor.rsF s f q (r.st.length : Nat) (depth + 1)) r.st.length (rs3 s r.st.length (rs1 s r outer depth))).2 := by
            unfold rs4
            split
            · exact DgOk.riP (fun q hq => DgOk.rsF f q _ _ hq) _ _ _ (hk 1)
            · split
              · exact DgOk.riP (fun q hq => DgOk.rsF f q _ _ hq) _ _ _ (hk 2)
              · exact h3
          generalize rs4 s (fun q => Proofs.YtmolmbeeoecnfabDoor.rsF s f q (r.st.length : Nat) (depth + 1)) r.st.length (rs3 s r.st.length (rs1 s r outer depth)) = q4 at *
          unfold rs5
          split
          · exact h4
          · exact DgOk.rtF _ _ ⟨h4.1.modify r.st.length (fun x => { x with end_ := q4.2.st.length }) (fun x hx => hx), h4.2⟩
theorem DgS.mark1 {st : List StP} (h : DgS st) (t : TrQ) : DgS (mark1 st t) := by
  unfold Proofs.YtmolmbeeoecnfabDoor.mark1
  split
  · exact h
  · split
    · exact (h.modify t.ts.toNat setRem (fun x hx => hx)).modify t.ts.toNat setWh (fun x hx => hx)
    · exact h.modify t.ts.toNat setRem (fun x hx => hx)
theorem DgS.fold : ∀ (tr : List TrQ) (st : List StP), DgS st → DgS (tr.foldl Proofs.YtmolmbeeoecnfabDoor.mark1 st)
  | [], st, h => h
  | t :: tr, st, h => DgS.fold tr _ (h.mark1 t)
theorem un_dig (s : ByteArray) : DgS (unSt s) ∧ ∀ t ∈ unTr s, NoP t.acts := by
  have h : DgOk (rcR s).2 := DgOk.rsF _ _ _ _ ⟨fun x hx => by simp [R0] at hx, fun t ht => by simp [R0] at ht⟩
  refine ⟨DgS.fold _ _ h.1, fun t ht => ?_⟩
  obtain ⟨t0, ht0, rfl⟩ := List.mem_map.1 ht
  exact h.2 t0 ht0

/-! The points. -/
theorem nop_count {a : ByteArray} (h : NoP a) : (bls a).count 46 = 0 := List.count_eq_zero.2 (fun hm => h 46 hm rfl)
section
variable {st : List StP} (hd : DgS st)
include hd
theorem ent_count (k : Nat) : (bls (leaveAt st k)).count 46 = 0 := by
  unfold leaveAt; split
  · rename_i x hx; exact nop_count (hd x (List.mem_of_getElem? hx)).2
  · rfl
theorem lvF_count (left : List Bool) : ∀ (k : Nat) (p : Py), (lvF st left k p).out.count 46 = p.out.count 46
  | 0, p => rfl
  | k + 1, p => by
    rw [lvF]
    split
    · rw [lvF_count left k]
      show (p.out ++ bls (leaveAt st k)).count 46 = _
      rw [List.count_append, ent_count hd k]; rfl
    · exact lvF_count left k p
omit hd in
theorem itF_count (g : Nat → Py → Py) (hg : ∀ i (p : Py), (g i p).out.count 46 = p.out.count 46) : ∀ (n i : Nat) (p : Py), (itF g n i p).out.count 46 = p.out.count 46
  | 0, i, p => rfl
  | n + 1, i, p => (itF_count g hg n (i + 1) (g i p)).trans (hg i p)
theorem enF_count : ∀ (f s : Nat) (a : Am) (p : Py), (enF st f s a p).out.count 46 = p.out.count 46
  | 0, s, a, p => rfl
  | f + 1, s, a, p => by
    rw [enF]
    split
    · rfl
    · rename_i x hx
      have h1 : ({ p with act := p.act.set s true, out := p.out ++ bls x.enter } : Py).out.count 46 = p.out.count 46 := by
        show (p.out ++ bls x.enter).count 46 = _
        rw [List.count_append, nop_count (hd x (List.mem_of_getElem? hx)).1]; rfl
      split
      · refine (itF_count _ ?_ _ _ _).trans h1
        intro i q
        split
        · exact enF_count f i a q
        · rfl
      · split
        · exact (enF_count f _ _ _).trans h1
        · exact h1
theorem tkF_count (t : TrQ) (ht : NoP t.acts) (p : Py) : (tkF st t p).out.count 46 = p.out.count 46 := by
  unfold tkF
  rw [enF_count hd]
  show ((lvF st (lefB st p.act t) st.length (rmF st (lefB st p.act t) st.length p)).out ++ bls t.acts).count 46 = _
  rw [List.count_append, nop_count ht, lvF_count hd, rmF_out]; rfl
theorem fold_count (th : List TrH) (ht : ∀ t ∈ th, NoP t.q.acts) : ∀ (ns : List Nat) (p : Py), (ns.foldl (tk1 st th) p).out.count 46 = p.out.count 46
  | [], p => rfl
  | n :: ns, p => by
    rw [List.foldl_cons, fold_count th ht ns]
    unfold tk1; split
    · rename_i t hx; exact tkF_count hd t.q (ht t (List.mem_of_getElem? hx)) p
    · rfl
theorem plK_count (th : List TrH) (ht : ∀ t ∈ th, NoP t.q.acts) (es : ByteArray) : ∀ k, (plK st th es k).out.count 46 = k
  | 0 => enF_count hd 26 0 Am.free py0
  | k + 1 => by
    show ((tkn st th (plK st th es k).act (byte es k)).foldl (tk1 st th) { plK st th es k with out := (plK st th es k).out ++ [46] }).out.count 46 = _
    rw [fold_count hd th ht]
    show ((plK st th es k).out ++ [46]).count 46 = _
    rw [List.count_append, plK_count th ht es k]; rfl
end
end Go.Proofs.YtmolmbeeoecnfabDoor

/- Own work: what Play answers, as plain functions of the texts; the walk of Onward. -/
namespace Go.Proofs.YtmolmbeeoecnfabDoor
open Go.RowKit Go.BigFrame
set_option linter.unusedVariables false
set_option linter.unusedSimpArgs false

theorem itF_alen (g : Nat → Py → Py) (hg : ∀ i (p : Py), (g i p).act.length = p.act.length) : ∀ (n i : Nat) (p : Py), (itF g n i p).act.length = p.act.length
  | 0, i, p => rfl
  | n + 1, i, p => (itF_alen g hg n (i + 1) (g i p)).trans (hg i p)
theorem enF_alen (st : List StP) : ∀ (f s : Nat) (a : Am) (p : Py), (enF st f s a p).act.length = p.act.length
  | 0, s, a, p => rfl
  | f + 1, s, a, p => by
    rw [enF]
    split
    · rfl
    · rename_i x hx
      have h1 : ({ p with act := p.act.set s true, out := p.out ++ bls x.enter } : Py).act.length = p.act.length := List.length_set
      split
      · refine (itF_alen _ ?_ _ _ _).trans h1
        intro i q
        split
        · exact enF_alen st f i a q
        · rfl
      · split
        · exact (enF_alen st f _ _ _).trans h1
        · exact h1
theorem tkF_alen (st : List StP) (t : TrQ) (p : Py) : (tkF st t p).act.length = p.act.length := by
  unfold tkF
  rw [enF_alen]
  show (lvF st (lefB st p.act t) st.length (rmF st (lefB st p.act t) st.length p)).act.length = _
  rw [lvF_len, rmF_act]
theorem fold_rt (st : List StP) (th : List TrH) (hs : 0 < st.length) : ∀ (ns : List Nat) (p : Py), p.act.length = 26 → Rt p → (ns.foldl (tk1 st th) p).act.length = 26 ∧ Rt (ns.foldl (tk1 st th) p)
  | [], p, h1, h2 => ⟨h1, h2⟩
  | n :: ns, p, h1, h2 => by
    rw [List.foldl_cons]
    refine fold_rt st th hs ns _ ?_ ?_
    · unfold tk1; split
      · rw [tkF_alen]; exact h1
      · exact h1
    · unfold tk1; split
      · exact tkF_rt st _ p hs h1 h2
      · exact h2
theorem plK_rt (st : List StP) (th : List TrH) (es : ByteArray) (hs : 0 < st.length) : ∀ k, (plK st th es k).act.length = 26 ∧ Rt (plK st th es k)
  | 0 => ⟨by show (enF st 26 0 Am.free py0).act.length = 26; rw [enF_alen]; rfl, enF_rt0 st 25 _ _ hs rfl⟩
  | k + 1 => by
    have ih := plK_rt st th es hs k
    exact fold_rt st th hs (tkn st th (plK st th es k).act (byte es k)) { plK st th es k with out := (plK st th es k).out ++ [46] } ih.1 ih.2
theorem nmK_ne (st : List StP) (l : List Bool) (h : mem l 0 = true) : ∀ k, 0 < k → nmK st l k ≠ []
  | 0, h0 => by omega
  | 1, _ => by simp [nmK, h]
  | k + 2, _ => by
    have ih := nmK_ne st l h (k + 1) (by omega)
    rw [nmK]; split
    · simp
    · exact ih
theorem stT_ne (st : List StP) (act : List Bool) (mm : List (List Bool)) (h : mem act 0 = true) (hs : 0 < st.length) : ∀ k, stT st act mm k ≠ []
  | 0 => nmK_ne st act h _ hs
  | k + 1 => by
    have ih := stT_ne st act mm h hs k
    rw [stT]; split
    · exact ih
    · intro e; simp at e

def th0 (s : ByteArray) : List TrH := (unTr s).map fun q => ⟨q, .slice none 0 0⟩
theorem th0_q (s : ByteArray) : (th0 s).map TrH.q = unTr s := by
  unfold th0
  rw [List.map_map]
  show (unTr s).map (fun q => q) = _
  simp
def plQ (s es : ByteArray) : Py := plK (unSt s) (th0 s) es es.size
/-- What Play puts out, and the status' text. -/
def pO (s es : ByteArray) : ByteArray := if (unE s).1 = 0 then ⟨(plQ s es).out.toArray⟩ else ⟨#[]⟩
def pS (s es : ByteArray) : ByteArray := if (unE s).1 = 0 then ⟨(stT (unSt s) (plQ s es).act (plQ s es).mm (unSt s).length).toArray⟩ else ⟨#[]⟩
theorem unE_2 {s : ByteArray} (h : (unE s).1 = 0) : (unE s).2 = 0 := by
  unfold unE at h ⊢
  repeat' split at h
  all_goals first | cases h | skip
  all_goals simp_all
  all_goals rw [if_neg (by omega)]
theorem pplay_ok (w : World) (s es : ByteArray) (hm : s.size ≤ maxLen) (hes : es.size ≤ 400) :
    Calls Tryd.prog 12 #[.string s, .string es] w fun e w' => e = .returned (.tuple #[.string (pO s es), .string (pS s es), .int .i64 (unE s).1, .int .i64 (unE s).2]) ∧ Fr (fun _ => False) w w' ∧ (pO s es).size ≤ 70000000000000 := by
  refine (pplay_any w s es hm hes (plan_ok s)).mono ?_
  rintro e w' ⟨hf, ⟨h1, rfl⟩ | ⟨h1, th, hth, hlb, rfl⟩⟩
  · refine ⟨?_, hf, by rw [pO, if_neg h1]; exact Nat.zero_le _⟩
    rw [pO, pS, if_neg h1, if_neg h1]
  · have e1 := plK_congr (hth.trans (th0_q s).symm) (unSt s) es es.size
    refine ⟨?_, hf, by rw [pO, if_pos h1, plQ, ← e1]; exact hlb⟩
    rw [pO, pS, if_pos h1, if_pos h1, plQ, e1, unE_2 h1, h1]
    rfl
/-! What Onward asks. -/
theorem th0_nop (s : ByteArray) : ∀ t ∈ th0 s, NoP t.q.acts := by
  intro t ht
  obtain ⟨q, hq, rfl⟩ := List.mem_map.1 ht
  exact (un_dig s).2 q hq
theorem pS_ne {s : ByteArray} (h : (unE s).1 = 0) (es : ByteArray) : pS s es ≠ ⟨#[]⟩ := by
  have h0 := (plan_ok s h).s0
  have h1 := stT_ne (unSt s) (plQ s es).act (plQ s es).mm (plK_rt (unSt s) (th0 s) es h0 es.size).2 h0 (unSt s).length
  rw [pS, if_pos h]
  intro e
  injection e with e
  exact h1 (by simpa using e)
theorem pO_count {s : ByteArray} (h : (unE s).1 = 0) (es : ByteArray) : (pO s es).data.toList.count 46 = es.size := by
  rw [pO, if_pos h]
  exact plK_count (un_dig s).1 (th0 s) (th0_nop s) es es.size
theorem pO_pre {s : ByteArray} (h : (unE s).1 = 0) (a b : ByteArray) : (pO s a).data.toList <+: (pO s (a ++ b)).data.toList := by
  rw [pO, pO, if_pos h, if_pos h]
  show (plQ s a).out <+: (plQ s (a ++ b)).out
  unfold plQ
  rw [← plK_app (unSt s) (th0 s) a b a.size (Nat.le_refl _), ByteArray.size_append]
  exact plK_pre (unSt s) (th0 s) (a ++ b) a.size b.size
end Go.Proofs.YtmolmbeeoecnfabDoor

/- Own work: Play at too long a list of events; an event that no transition has calls nothing. -/
namespace Go.Proofs.YtmolmbeeoecnfabDoor
open Go.RowKit Go.BigFrame
set_option linter.unusedVariables false
set_option linter.unusedSimpArgs false

set_option maxRecDepth 100000 in
set_option maxHeartbeats 1000000 in
theorem pplay_long (w : World) (s es : ByteArray) (h : 400 < es.size) :
    Calls Tryd.prog 12 #[.string s, .string es] w fun e w' => e = .returned (.tuple #[.string ⟨#[]⟩, .string ⟨#[]⟩, .int .i64 1, .int .i64 0]) ∧ Fr (fun _ => False) w w' := by
  have h400 : (400 : Int) < es.size := by omega
  go_enter Tryd.func12, Tryd.ntmps12
  go_wp2_with fail
  exact bodyPost_ret (v := .tuple #[.string ⟨#[]⟩, .string ⟨#[]⟩, .int .i64 1, .int .i64 0]) (by simp [results, Tryd.results12, go_sem]) rfl ⟨rfl, Fr.refl _ _⟩

/-- An event that no transition has. -/
def NoEv (th : List TrH) (ev : UInt8) : Prop := ∀ t ∈ th, t.q.event ≠ ev
section
variable {th : List TrH} {ev : UInt8} (h : NoEv th ev)
include h
theorem fpo_no (act : List Bool) (s : Nat) : fpo th act s ev = -1 := by
  unfold fpo
  rcases firstB_spec (posB th act s ev) th.length with ⟨h1, -⟩ | ⟨k, h1, h2, h3, -⟩
  · rw [h1]
  · exfalso
    unfold posB at h3
    split at h3
    · rename_i t hx
      simp only [Bool.and_eq_true, beq_iff_eq] at h3
      exact h t (List.mem_of_getElem? hx) h3.2.1
    · cases h3
theorem cfF_no (st : List StP) (act : List Bool) : ∀ (f : Nat) (s : Int), cfF st th act ev f s = -1
  | 0, s => rfl
  | f + 1, s => by
    unfold cfF
    rw [fpo_no h, cfF_no st act f]
    split
    · rfl
    · simp
theorem clK_no (st : List StP) (act : List Bool) : ∀ k, clK st th act ev k = []
  | 0 => rfl
  | k + 1 => by
    rw [clK_succ, clK_no st act k]
    unfold cl1 cfO
    rw [cfF_no h]
    split <;> simp
theorem tkn_no (st : List StP) (act : List Bool) : tkn st th act ev = [] := by
  unfold tkn clL; rw [clK_no h]; rfl
theorem evStep_no (st : List StP) (p : Py) : evStep st th p ev = { p with out := p.out ++ [46] } := by
  unfold evStep spF; rw [tkn_no h]; rfl
end
end Go.Proofs.YtmolmbeeoecnfabDoor

/- Own work: the status does not hang on what was put out. -/
namespace Go.Proofs.YtmolmbeeoecnfabDoor
open Go.RowKit Go.BigFrame
set_option linter.unusedVariables false
set_option linter.unusedSimpArgs false

/-- The same status. -/
def Eqv (p q : Py) : Prop := p.act = q.act ∧ p.mm = q.mm
theorem Eqv.refl (p : Py) : Eqv p p := ⟨rfl, rfl⟩
theorem itF_eqv (g : Nat → Py → Py) (hg : ∀ i p q, Eqv p q → Eqv (g i p) (g i q)) : ∀ (n i : Nat) (p q : Py), Eqv p q → Eqv (itF g n i p) (itF g n i q)
  | 0, i, p, q, h => h
  | n + 1, i, p, q, h => itF_eqv g hg n (i + 1) _ _ (hg i p q h)
theorem enF_eqv (st : List StP) : ∀ (f s : Nat) (a : Am) (p q : Py), Eqv p q → Eqv (enF st f s a p) (enF st f s a q)
  | 0, s, a, p, q, h => h
  | f + 1, s, a, p, q, h => by
    cases hx : st[s]? with
    | none => simp only [enF, hx]; exact h
    | some x =>
      have h1 : Eqv { p with act := p.act.set s true, out := p.out ++ bls x.enter } { q with act := q.act.set s true, out := q.out ++ bls x.enter } := ⟨by show p.act.set s true = q.act.set s true; rw [h.1], h.2⟩
      by_cases h2 : x.kind = 2
      · rw [enF_and hx h2, enF_and hx h2]
        refine itF_eqv _ ?_ _ _ _ _ h1
        intro i p' q' hpq
        split
        · exact enF_eqv st f i a p' q' hpq
        · exact hpq
      · by_cases h3 : x.kind = 1
        · rw [enF_or hx h3, enF_or hx h3, h.2]
          exact enF_eqv st f _ _ _ _ ⟨h1.1, rfl⟩
        · rw [enF_leaf hx h2 h3, enF_leaf hx h2 h3]
          exact h1
theorem lvF_eqv (st : List StP) (left : List Bool) : ∀ (k : Nat) (p q : Py), Eqv p q → Eqv (lvF st left k p) (lvF st left k q)
  | 0, p, q, h => h
  | k + 1, p, q, h => by
    rw [lvF, lvF]
    split
    · exact lvF_eqv st left k _ _ ⟨by show p.act.set k false = q.act.set k false; rw [h.1], h.2⟩
    · exact lvF_eqv st left k p q h
theorem rmF_eqv (st : List StP) (left : List Bool) : ∀ (k : Nat) (p q : Py), Eqv p q → Eqv (rmF st left k p) (rmF st left k q)
  | 0, p, q, h => h
  | k + 1, p, q, h => by
    have ih := rmF_eqv st left k p q h
    rw [rmF, rmF, rmS, rmS]
    split
    · split
      · exact ⟨ih.1, by show (rmF st left k p).mm.set _ _ = (rmF st left k q).mm.set _ _; rw [ih.1, ih.2]⟩
      · exact ih
    · exact ih
theorem tkF_eqv (st : List StP) (t : TrQ) (p q : Py) (h : Eqv p q) : Eqv (tkF st t p) (tkF st t q) := by
  unfold tkF
  rw [h.1]
  exact enF_eqv st 26 _ _ _ _ (lvF_eqv st _ _ _ _ (rmF_eqv st _ _ _ _ h))
theorem fold_eqv (st : List StP) (th : List TrH) : ∀ (ns : List Nat) (p q : Py), Eqv p q → Eqv (ns.foldl (tk1 st th) p) (ns.foldl (tk1 st th) q)
  | [], p, q, h => h
  | n :: ns, p, q, h => by
    rw [List.foldl_cons, List.foldl_cons]
    refine fold_eqv st th ns _ _ ?_
    unfold tk1; split
    · exact tkF_eqv st _ p q h
    · exact h
theorem evStep_eqv (st : List StP) (th : List TrH) (p q : Py) (ev : UInt8) (h : Eqv p q) : Eqv (evStep st th p ev) (evStep st th q ev) := by
  unfold evStep spF
  show Eqv ((tkn st th p.act ev).foldl _ _) ((tkn st th q.act ev).foldl _ _)
  rw [h.1]
  exact fold_eqv st th _ _ _ ⟨rfl, h.2⟩
end Go.Proofs.YtmolmbeeoecnfabDoor
